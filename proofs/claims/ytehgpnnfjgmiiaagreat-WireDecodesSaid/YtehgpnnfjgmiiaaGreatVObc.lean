/- Good of the program: rosters. Conditions: at most 10,000 instances, targets of at most 100,000 bytes. Get of the program. Conditions: a length that an int holds. slices.Equal and Same of the program at instances. No condition. The library's own steps on rows of instances: copy; append of a made row; whether two rows share memory. Conditions: rows of their own. What is read of the bytes of a good instance, and what is read has them; newer is an order: plain. No condition. slices.BinarySearchFunc at instances, by their publishers. Conditions: at most 16 instances, in order. Put: plain; its pieces ready for the walk. Conditions: at most 10,000 instances, targets of at most 100,000 bytes. -/
import Derived.Test.YtehgpnnfjgmiiaaGreatProg
import Derived.Test.YtehgpnnfjgmiiaaGreatVKCrd
import Derived.Test.YtehgpnnfjgmiiaaGreatVIie
import Derived.Test.YtehgpnnfjgmiiaaGreatVJLcd
import Derived.RangeFuncBox
import Derived.RangeFuncFrom
import Derived.RangeFuncLeaves
import Derived.Test.YtehgpnnfjgmiiaaGreatVJPWords
import Derived.RegionTactic
import Derived.RegionCalls
import Derived.WalkKit
import Derived.Deep.RegionHeld3
import Derived.Deep.QuietTactic
import Derived.BigQuiet
import Derived.Test.YtehgpnnfjgmiiaaGreatVKCdi
import Derived.Test.YtehgpnnfjgmiiaaGreatVJLra
import Derived.Shelf.Abstract
import Derived.Sort.Grow
import Derived.Lib.SlBytesConst
import Derived.LoopTactic
import Derived.Stop.BytesEq
import Derived.Deep.AppendSrc
import Derived.Lib.ConvBytes
import Derived.Laws.ResultCell
import Derived.Laws.CopyOwn
section
namespace Go.Proofs.YtehgpnnfjgmiiaaGreat
open Go.Shelf Go.RowKit Go.Lib Go.Great
set_option maxRecDepth 100000
set_option maxHeartbeats 2000000
instance : Inhabited Ins := ⟨zeroI⟩
/-- What is asked of the one at a place. -/
def okAt (L : List Ins) (k : Nat) : Bool := goodI L[k]! && (decide (k = 0) || decide (cmpP L[k - 1]! L[k]! < 0))
/-- A roster is good. -/
def goodR (L : List Ins) : Bool := decide (L.length ≤ 16) && (List.range L.length).all (okAt L)
theorem goodR_iff (L : List Ins) : goodR L = true ↔ L.length ≤ 16 ∧ ∀ k, k < L.length → okAt L k = true := by
  unfold goodR
  rw [Bool.and_eq_true, decide_eq_true_eq, List.all_eq_true]
  simp only [List.mem_range]
theorem row_at {w : World} {g off k : Nat} {L : List Ins} (h : w.rangeAt g off (flatE encI L)) (hk : k < L.length) : w.rangeAt g (off + k * 28) (encI L[k]!) := by
  intro j v hv
  have hj : j < 28 := by
    have := (List.getElem?_eq_some_iff.1 hv).1
    rwa [encI_length] at this
  have e := flatE_get encI_length (by omega) L k _ j (List.getElem?_eq_getElem hk) hj
  rw [getElem!_pos L k hk] at hv
  rw [hv] at e
  rw [Nat.add_assoc]
  exact h _ v e
theorem row_load {w W : World} {B g off : Nat} {L : List Ins} (h : w.rangeAt g off (flatE encI L)) (hg : g < B) (hb : Below B w W) {k : Nat} (hk : k < L.length) : (loadVar 79 ⟨g, off + k * 28, none⟩).run Tryz.prog W = .ok (.agg (encI L[k]!).toArray) W :=
  load28 (row_at (rangeAt_below h (hb.block g hg)) hk)
theorem gd_long (A : Option Addr) (n c : Nat) (w : World) (hn : 16 < n) : Calls Tryz.prog 33 #[.slice A n c] w fun e w' => e = .returned (.bool false) ∧ w' = w := by
  have hn' : (n : Int) > 16 := by omega
  go_enter Tryz.func33, Tryz.ntmps33
  go_wp2
  go_ret
  exact ⟨rfl, rfl⟩
theorem gd_none (A : Option Addr) (c : Nat) (w : World) : Calls Tryz.prog 33 #[.slice A 0 c] w fun e w' => e = .returned (.bool true) ∧ w' = w := by
  go_enter Tryz.func33, Tryz.ntmps33
  go_wp2
  go_loopg [10] 0 (fun _ s wr => s = .int .i64 0 ∧ wr = w)
  case atStart => exact ⟨rfl, rfl⟩
  case round =>
    obtain ⟨rfl, rfl⟩ := hrel
    go_wp2
    go_ret
    exact ⟨rfl, rfl⟩
theorem gd_some (b off c : Nat) (L : List Ins) (w : World) (hL : L.length ≤ 16) (ht : ∀ k, k < L.length → L[k]!.tgt.length ≤ 100000) (hb : b < w.heap.size) (hr : w.rangeAt b off (flatE encI L)) :
    Calls Tryz.prog 33 #[.slice (some ⟨b, off, none⟩) L.length c] w fun e w' => e = .returned (.bool (goodR L)) ∧ Below w.heap.size w w' := by
  have HLD : Hid (∀ k, k < L.length → ∀ W, Below w.heap.size w W → (loadVar 79 ⟨b, off + k * 28, none⟩).run Tryz.prog W = .ok (.agg (encI L[k]!).toArray) W) := Lib.hid (fun k hk W hW => row_load hr hb hW hk)
  have HGD : Hid (∀ k, k < L.length → ∀ W, Calls Tryz.prog 57 #[.agg (encI L[k]!).toArray] W fun e w' => e = .returned (.bool (goodI L[k]!)) ∧ Below W.heap.size W w') := Lib.hid (fun k hk W => igood_any _ (ht k hk) W)
  have HBP : Hid (∀ (i j : Nat) (W : World), Calls Tryz.prog 58 #[.agg (encI L[i]!).toArray, .agg (encI L[j]!).toArray] W fun e w' => e = .returned (.int .i64 (cmpP L[i]! L[j]!)) ∧ Below W.heap.size W w') := Lib.hid (fun i j W => byp_any _ _ W)
  have HT : Hid ((∀ k, k < L.length → okAt L k = true) → goodR L = true) := Lib.hid (fun h => (goodR_iff L).2 ⟨hL, h⟩)
  have HF : Hid (∀ k, k < L.length → okAt L k = false → goodR L = false) := Lib.hid (fun k hk h => by
    cases hg : goodR L with
    | false => rfl
    | true => rw [((goodR_iff L).1 hg).2 k hk] at h; cases h)
  have HO : Hid (∀ k, okAt L k = (goodI L[k]! && (decide (k = 0) || decide (cmpP L[k - 1]! L[k]! < 0)))) := Lib.hid (fun k => rfl)
  generalize goodR L = r at *
  generalize hn : L.length = n at *
  have hlen : ¬ (n : Int) > 16 := by omega
  clear hr ht
  go_enter Tryz.func33, Tryz.ntmps33
  go_wp2
  go_loopw [10] (fun i wr => ∃ k : Nat, i = .int .i64 (k : Int) ∧ k ≤ n ∧ (∀ j, j < k → okAt L j = true) ∧ Below w.heap.size w wr) (fun i _ => n - (RowKit.intOf i).toNat)
  case atStart => exact ⟨0, rfl, by omega, fun j hj => by omega, Below.refl _ _⟩
  case round =>
    obtain ⟨k, rfl, hk, hF, hbr⟩ := hrel
    have HD := Lib.hid hF
    clear hF
    by_cases hlt : k < n
    · have hlt' : (k : Int) < (n : Int) := by omega
      have hs0 := Lib.hid hbr.size
      have hbn : Below w.heap.size w (wr.alloc (.cells (encI L[k]!).toArray 79)) := hbr.alloc hbr.size _
      have HBN := Lib.hid hbn
      have hnew := heap_alloc_new wr (.cells (encI L[k]!).toArray 79)
      have HQ4 : Hid (∀ q : Kept (wr.alloc (.cells (encI L[k]!).toArray 79)).heap.size (wr.alloc (.cells (encI L[k]!).toArray 79)), (loadVar 79 ⟨wr.heap.size, 0, none⟩).run Tryz.prog q.val = .ok (.agg (encI L[k]!).toArray) q.val) := Lib.hid (fun q =>
        load28 (row_range (by rw [q.property.block _ (Array.getElem?_eq_some_iff.1 hnew).1]; exact hnew)))
      have hld := HLD.out k hlt wr hbr
      have HGK := Lib.hid (HGD.out k hlt)
      obtain ⟨Y, hY⟩ : ∃ Y : Ins, Y = L[k]! := ⟨_, rfl⟩
      have HY := Lib.hid hY
      have hok := HO.out k
      rw [← hY] at hnew hok hbn hld
      rw [← HY.out] at HQ4 HGK HBN
      have HLDV := Lib.hid hld
      have HW2 : Hid (∃ W2, W2 = wr.alloc (.cells (encI Y).toArray 79)) := Lib.hid ⟨_, rfl⟩
      clear hY hld hbn hnew
      cases hgk : goodI Y with
      | false =>
        rw [hgk] at hok HGK
        have HRF : Hid (r = false) := Lib.hid (HF.out k hlt (by rw [hok]; rfl))
        clear HT HF HO HD HLD HGD HBP hbr hok hgk
        go_upto_region 6 with (first
          | ((with_reducible refine wpList_loadV (op := ⟨some 14, _, _, _, _, _⟩) rfl 79 (.tmp 13) rfl _ ?_ _ HLDV.out ?_); rfl)
          | (with_reducible refine wpList_alloc28 (o := ⟨some 4, _, _, _, _, _⟩) wr.heap.size rfl rfl 4 rfl rfl ?_)
          | ((with_reducible refine wpList_store28n (o := ⟨none, _, _, _, _, _⟩) rfl (.tmp 4) (.tmp 14) rfl wr.heap.size rfl zeroI Y ?_ ?_ ?_); rfl; rfl))
        generalize (encI Y).toArray = X at *
        generalize wr.alloc (.cells X 79) = W2 at *
        simp only [Act.put, List.setIfInBounds_toArray, List.set_cons_zero, List.set_cons_succ]
        refine wp_region_kept W2.heap.size W2 (Below.refl _ _) (by kernel_rfl) (by kernel_rfl) ?_
        repeat (first
          | (go_big_quiet_want; (with_reducible refine quiet_loadV 79 (.tmp 4) rfl _ ?_ _ HQ4.out ?_); rfl; simp only [Act.put, List.setIfInBounds_toArray, List.set_cons_zero, List.set_cons_succ]; go_big_quiet_on)
          | go_big_quiet_step (first | (go_at_call 57; with_reducible exact kept_of (Nat.le_refl _) HGK.out _)))
        refine wpQuiet_nil ?_
        rintro wk ⟨⟨_, hwk⟩, rfl⟩
        go_wp2
        go_ret
        exact ⟨by rw [HRF.out]; rfl, HBN.out.trans (hwk.mono HBN.out.size)⟩
      | true =>
        rw [hgk] at hok HGK
        rw [Bool.true_and] at hok
        rcases Nat.eq_zero_or_pos k with rfl | hpos
        · have HRN : Hid (∃ k' : Nat, (RowKit.intOf (.int .i64 (((0 : Nat) : Int) + 1)) : Int) = (k' : Int)) := Lib.hid ⟨1, rfl⟩
          have HNX : Hid (∀ wx, Below w.heap.size w wx → ∃ k : Nat, Value.int .i64 1 = .int .i64 (k : Int) ∧ k ≤ n ∧ (∀ j, j < k → okAt L j = true) ∧ Below w.heap.size w wx) := Lib.hid (fun wx hx => ⟨1, rfl, by omega, fun j hj => by
            obtain rfl : j = 0 := by omega
            rw [hok]; rfl, hx⟩)
          clear HT HF HO HD HLD HGD HBP hbr hok hgk HRN
          go_upto_region 6 with (first
            | ((with_reducible refine wpList_loadV (op := ⟨some 14, _, _, _, _, _⟩) rfl 79 (.tmp 13) rfl _ ?_ _ HLDV.out ?_); rfl)
            | (with_reducible refine wpList_alloc28 (o := ⟨some 4, _, _, _, _, _⟩) wr.heap.size rfl rfl 4 rfl rfl ?_)
            | ((with_reducible refine wpList_store28n (o := ⟨none, _, _, _, _, _⟩) rfl (.tmp 4) (.tmp 14) rfl wr.heap.size rfl zeroI Y ?_ ?_ ?_); rfl; rfl))
          generalize (encI Y).toArray = X at *
          generalize wr.alloc (.cells X 79) = W2 at *
          simp only [Act.put, List.setIfInBounds_toArray, List.set_cons_zero, List.set_cons_succ]
          refine wp_region_kept W2.heap.size W2 (Below.refl _ _) (by kernel_rfl) (by kernel_rfl) ?_
          repeat (first
            | (go_big_quiet_want; (with_reducible refine quiet_loadV 79 (.tmp 4) rfl _ ?_ _ HQ4.out ?_); rfl; simp only [Act.put, List.setIfInBounds_toArray, List.set_cons_zero, List.set_cons_succ]; go_big_quiet_on)
            | go_big_quiet_step (first | (go_at_call 57; with_reducible exact kept_of (Nat.le_refl _) HGK.out _)))
          refine wpQuiet_nil ?_
          rintro wk ⟨⟨_, hwk⟩, rfl⟩
          have HBW := Lib.hid (HNX.out _ (HBN.out.trans (hwk.mono HBN.out.size)))
          clear hwk
          go_wp2
          go_roundw
          case rel => exact HBW.out
          case measure => simp [RowKit.intOf]; omega
        · obtain ⟨m, rfl⟩ : ∃ m, k = m + 1 := ⟨k - 1, by omega⟩
          have hlm : m < n := by omega
          have HQP : Hid (∀ q : Kept (wr.alloc (.cells (encI Y).toArray 79)).heap.size (wr.alloc (.cells (encI Y).toArray 79)), (loadVar 79 ⟨b, off + m * 28, none⟩).run Tryz.prog q.val = .ok (.agg (encI L[m]!).toArray) q.val) := Lib.hid (fun q =>
            HLD.out m hlm _ (HBN.out.trans (q.property.mono HBN.out.size)))
          have HCP := Lib.hid (HBP.out m (m + 1))
          rw [← HY.out] at HCP
          rw [show decide (m + 1 = 0) = false from decide_eq_false (by omega), Bool.false_or, Nat.add_sub_cancel] at hok
          obtain ⟨q, hq⟩ : ∃ q, q = cmpP L[m]! Y := ⟨_, rfl⟩
          rw [← hq] at hok HCP
          have hge : (q : Int) ≥ 0 ↔ okAt L (m + 1) = false := by
            rw [hok, decide_eq_false_iff_not]; omega
          have HNX : Hid (okAt L (m + 1) = true → ∀ wx, Below w.heap.size w wx → ∃ k : Nat, Value.int .i64 ((m : Int) + 1 + 1) = .int .i64 (k : Int) ∧ k ≤ n ∧ (∀ j, j < k → okAt L j = true) ∧ Below w.heap.size w wx) := Lib.hid (fun h wx hx => ⟨m + 1 + 1, by simp, by omega, fun j hj => by
            by_cases e : j = m + 1
            · subst e; exact h
            · exact HD.out j (by omega), hx⟩)
          have HRF := Lib.hid (HF.out (m + 1) hlt)
          cases hc : okAt L (m + 1) with
          | false =>
            have hge' := hge.2 hc
            have HRR : Hid (r = false) := Lib.hid (HRF.out hc)
            clear HT HF HO HD HLD HGD HBP hbr hok hgk hge hc HNX HRF hq
            go_upto_region 6 with (first
              | ((with_reducible refine wpList_loadV (op := ⟨some 14, _, _, _, _, _⟩) rfl 79 (.tmp 13) rfl _ ?_ _ HLDV.out ?_); rfl)
              | (with_reducible refine wpList_alloc28 (o := ⟨some 4, _, _, _, _, _⟩) wr.heap.size rfl rfl 4 rfl rfl ?_)
              | ((with_reducible refine wpList_store28n (o := ⟨none, _, _, _, _, _⟩) rfl (.tmp 4) (.tmp 14) rfl wr.heap.size rfl zeroI Y ?_ ?_ ?_); rfl; rfl))
            generalize (encI Y).toArray = X at *
            generalize (encI L[m]!).toArray = Z at *
            generalize wr.alloc (.cells X 79) = W2 at *
            simp only [Act.put, List.setIfInBounds_toArray, List.set_cons_zero, List.set_cons_succ]
            refine wp_region_kept W2.heap.size W2 (Below.refl _ _) (by kernel_rfl) (by kernel_rfl) ?_
            repeat (first
              | (go_big_quiet_want; (with_reducible refine quiet_loadV 79 (.tmp 4) rfl _ ?_ _ HQ4.out ?_); rfl; simp only [Act.put, List.setIfInBounds_toArray, List.set_cons_zero, List.set_cons_succ]; go_big_quiet_on)
              | (go_big_quiet_want; (with_reducible refine quiet_loadV 79 (.tmp 25) rfl _ ?_ _ HQP.out ?_); rfl; simp only [Act.put, List.setIfInBounds_toArray, List.set_cons_zero, List.set_cons_succ]; go_big_quiet_on)
              | go_big_quiet_step (first | (go_at_call 57; with_reducible exact kept_of (Nat.le_refl _) HGK.out _) | (go_at_call 58; with_reducible exact kept_of (Nat.le_refl _) HCP.out _)))
            refine wpQuiet_nil ?_
            rintro wk ⟨⟨_, hwk⟩, rfl⟩
            go_wp2
            go_ret
            exact ⟨by rw [HRR.out]; rfl, HBN.out.trans (hwk.mono HBN.out.size)⟩
          | true =>
            have hge' : ¬ q ≥ 0 := fun h => by rw [hge.1 h] at hc; cases hc
            have HNY := Lib.hid (HNX.out hc)
            clear HT HF HO HD HLD HGD HBP hbr hok hgk hge hc HNX HRF hq
            go_upto_region 6 with (first
              | ((with_reducible refine wpList_loadV (op := ⟨some 14, _, _, _, _, _⟩) rfl 79 (.tmp 13) rfl _ ?_ _ HLDV.out ?_); rfl)
              | (with_reducible refine wpList_alloc28 (o := ⟨some 4, _, _, _, _, _⟩) wr.heap.size rfl rfl 4 rfl rfl ?_)
              | ((with_reducible refine wpList_store28n (o := ⟨none, _, _, _, _, _⟩) rfl (.tmp 4) (.tmp 14) rfl wr.heap.size rfl zeroI Y ?_ ?_ ?_); rfl; rfl))
            generalize (encI Y).toArray = X at *
            generalize (encI L[m]!).toArray = Z at *
            generalize wr.alloc (.cells X 79) = W2 at *
            simp only [Act.put, List.setIfInBounds_toArray, List.set_cons_zero, List.set_cons_succ]
            refine wp_region_kept W2.heap.size W2 (Below.refl _ _) (by kernel_rfl) (by kernel_rfl) ?_
            repeat (first
              | (go_big_quiet_want; (with_reducible refine quiet_loadV 79 (.tmp 4) rfl _ ?_ _ HQ4.out ?_); rfl; simp only [Act.put, List.setIfInBounds_toArray, List.set_cons_zero, List.set_cons_succ]; go_big_quiet_on)
              | (go_big_quiet_want; (with_reducible refine quiet_loadV 79 (.tmp 25) rfl _ ?_ _ HQP.out ?_); rfl; simp only [Act.put, List.setIfInBounds_toArray, List.set_cons_zero, List.set_cons_succ]; go_big_quiet_on)
              | go_big_quiet_step (first | (go_at_call 57; with_reducible exact kept_of (Nat.le_refl _) HGK.out _) | (go_at_call 58; with_reducible exact kept_of (Nat.le_refl _) HCP.out _)))
            refine wpQuiet_nil ?_
            rintro wk ⟨⟨_, hwk⟩, rfl⟩
            have HBW := Lib.hid (HNY.out _ (HBN.out.trans (hwk.mono HBN.out.size)))
            clear hwk
            go_wp2
            go_roundw
            case rel => exact HBW.out
            case measure => simp [RowKit.intOf]; omega
    · have hlt' : ¬ (k : Int) < (n : Int) := by omega
      have HRT : Hid (r = true) := Lib.hid (HT.out (fun j hj => HD.out j (by omega)))
      have HBR := Lib.hid hbr
      clear HT HF HO HD HLD HGD HBP hbr
      go_wp2
      go_ret
      exact ⟨by rw [HRT.out]; rfl, HBR.out⟩
theorem goodR_long {L : List Ins} (h : 16 < L.length) : goodR L = false := by
  cases hg : goodR L with
  | false => rfl
  | true => have := ((goodR_iff L).1 hg).1; omega
/-- Good of the program. -/
theorem gd_any (A : Option Addr) (c : Nat) (L : List Ins) (w : World) (ht : ∀ x ∈ L, x.tgt.length ≤ 100000) (hA : IAt w w.heap.size A L) :
    Calls Tryz.prog 33 #[.slice A L.length c] w fun e w' => e = .returned (.bool (goodR L)) ∧ Below w.heap.size w w' := by
  by_cases hl : 16 < L.length
  · rw [goodR_long hl]
    refine (gd_long A L.length c w hl).mono ?_
    rintro e w' ⟨rfl, rfl⟩
    exact ⟨rfl, Below.refl _ _⟩
  · rcases hA with rfl | ⟨g, off, rfl, hg, hr⟩
    · refine (gd_none A c w).mono ?_
      rintro e w' ⟨rfl, rfl⟩
      exact ⟨rfl, Below.refl _ _⟩
    · exact gd_some g off c L w (by omega) (fun k hk => ht _ (by rw [getElem!_pos L k hk]; exact List.getElem_mem hk)) hg hr
end Go.Proofs.YtehgpnnfjgmiiaaGreat
end
section
namespace Go.Proofs.YtehgpnnfjgmiiaaGreat
open Go.Shelf Go.RowKit Go.Lib Go.Great
set_option maxRecDepth 100000
set_option maxHeartbeats 400000
end Go.Proofs.YtehgpnnfjgmiiaaGreat
end
section
namespace Go.Proofs.YtehgpnnfjgmiiaaGreat
open Go.Shelf Go.RowKit Go.Lib Go.Great
set_option maxRecDepth 100000
set_option maxHeartbeats 400000
/-- The same instances, in the same order. -/
def sameR (xs ys : List Ins) : Bool := decide (xs.length = ys.length) && (List.range xs.length).all (fun k => eqI xs[k]! ys[k]!)
theorem sameR_iff (xs ys : List Ins) : sameR xs ys = true ↔ xs = ys := by
  unfold sameR
  rw [Bool.and_eq_true, decide_eq_true_eq, List.all_eq_true]
  constructor
  · rintro ⟨h1, h2⟩
    apply List.ext_getElem h1
    intro k hk hk'
    have := h2 k (by simpa using hk)
    rw [eqI_iff, getElem!_pos xs k hk, getElem!_pos ys k hk'] at this
    exact this
  · rintro rfl
    exact ⟨rfl, fun k _ => eqI_self _⟩
theorem eq_len (A A' : Option Addr) (n m c c' : Nat) (w : World) (h : n ≠ m) : Calls Tryz.prog 63 #[.slice A n c, .slice A' m c'] w fun e w' => e = .returned (.bool false) ∧ w' = w := by
  have h' : ¬ (n : Int) = (m : Int) := by omega
  go_enter Tryz.func63, Tryz.ntmps63
  go_wp2
  go_ret
  exact ⟨rfl, rfl⟩
theorem eq_none (A A' : Option Addr) (c c' : Nat) (w : World) : Calls Tryz.prog 63 #[.slice A 0 c, .slice A' 0 c'] w fun e w' => e = .returned (.bool true) ∧ w' = w := by
  go_enter Tryz.func63, Tryz.ntmps63
  go_wp2
  go_loopg [13] 0 (fun _ s wr => s = .int .i64 0 ∧ wr = w)
  case atStart => exact ⟨rfl, rfl⟩
  case round =>
    obtain ⟨rfl, rfl⟩ := hrel
    go_wp2
    go_ret
    exact ⟨rfl, rfl⟩
theorem eq_some (g1 o1 c1 g2 o2 c2 n : Nat) (xs ys : List Ins) (w : World) (hx : xs.length = n) (hy : ys.length = n) (hn : n ≤ 10000) (hg1 : g1 < w.heap.size) (hr1 : w.rangeAt g1 o1 (flatE encI xs)) (hg2 : g2 < w.heap.size) (hr2 : w.rangeAt g2 o2 (flatE encI ys)) :
    Calls Tryz.prog 63 #[.slice (some ⟨g1, o1, none⟩) n c1, .slice (some ⟨g2, o2, none⟩) n c2] w fun e w' => e = .returned (.bool (sameR xs ys)) ∧ Below w.heap.size w w' := by
  have HL1 : Hid (∀ k, k < n → ∀ W, Below w.heap.size w W → (loadVar 79 ⟨g1, o1 + k * 28, none⟩).run Tryz.prog W = .ok (.agg (encI xs[k]!).toArray) W) := Lib.hid (fun k hk W hW => row_load hr1 hg1 hW (by omega))
  have HL2 : Hid (∀ k, k < n → ∀ W, Below w.heap.size w W → (loadVar 79 ⟨g2, o2 + k * 28, none⟩).run Tryz.prog W = .ok (.agg (encI ys[k]!).toArray) W) := Lib.hid (fun k hk W hW => row_load hr2 hg2 hW (by omega))
  have HT : Hid ((∀ k, k < n → eqI xs[k]! ys[k]! = true) → sameR xs ys = true) := Lib.hid (fun h => by
    unfold sameR
    rw [Bool.and_eq_true, decide_eq_true_eq, List.all_eq_true]
    exact ⟨by omega, fun k hk => h k (by rw [List.mem_range] at hk; omega)⟩)
  have HF : Hid (∀ k, k < n → eqI xs[k]! ys[k]! = false → sameR xs ys = false) := Lib.hid (fun k hk h => by
    cases hs : sameR xs ys with
    | false => rfl
    | true => rw [(sameR_iff xs ys).1 hs, eqI_self] at h; cases h)
  generalize sameR xs ys = r at *
  clear hr1 hr2
  go_enter Tryz.func63, Tryz.ntmps63
  go_wp2
  go_loopw [13] (fun i wr => ∃ k : Nat, i = .int .i64 (k : Int) ∧ k ≤ n ∧ (∀ j, j < k → eqI xs[j]! ys[j]! = true) ∧ Below w.heap.size w wr) (fun i _ => n - (RowKit.intOf i).toNat)
  case atStart => exact ⟨0, rfl, by omega, fun j hj => by omega, Below.refl _ _⟩
  case round =>
    obtain ⟨k, rfl, hk, hF, hbr⟩ := hrel
    have HD := Lib.hid hF
    clear hF
    by_cases hlt : k < n
    · have hlt' : (k : Int) < (n : Int) := by omega
      have HBN := Lib.hid hbr
      have HQ1 : Hid (∀ q : Kept wr.heap.size wr, (loadVar 79 ⟨g1, o1 + k * 28, none⟩).run Tryz.prog q.val = .ok (.agg (encI xs[k]!).toArray) q.val) := Lib.hid (fun q => HL1.out k hlt _ (HBN.out.trans (q.property.mono HBN.out.size)))
      have HQ2 : Hid (∀ q : Kept wr.heap.size wr, (loadVar 79 ⟨g2, o2 + k * 28, none⟩).run Tryz.prog q.val = .ok (.agg (encI ys[k]!).toArray) q.val) := Lib.hid (fun q => HL2.out k hlt _ (HBN.out.trans (q.property.mono HBN.out.size)))
      have he := fun W => eqIns xs[k]! ys[k]! W
      have HNX : Hid (eqI xs[k]! ys[k]! = true → ∀ wx, Below w.heap.size w wx → ∃ k' : Nat, Value.int .i64 ((k : Int) + 1) = .int .i64 (k' : Int) ∧ k' ≤ n ∧ (∀ j, j < k' → eqI xs[j]! ys[j]! = true) ∧ Below w.heap.size w wx) := Lib.hid (fun h wx hx => ⟨k + 1, by simp, by omega, fun j hj => by
        by_cases e : j = k
        · subst e; exact h
        · exact HD.out j (by omega), hx⟩)
      have HRF := Lib.hid (HF.out k hlt)
      clear HT HF HD HL1 HL2 hbr
      cases hq : eqI xs[k]! ys[k]! with
      | false =>
        rw [hq] at he
        have HRR : Hid (r = false) := Lib.hid (HRF.out hq)
        clear HRF HNX hq
        generalize (encI xs[k]!).toArray = X at *
        generalize (encI ys[k]!).toArray = Y at *
        go_upto_region 6 with fail
        refine wp_region_kept wr.heap.size wr (Below.refl _ _) (by kernel_rfl) (by kernel_rfl) ?_
        repeat (first
          | (go_big_quiet_want; (with_reducible refine quiet_loadV 79 (.tmp 18) rfl _ ?_ _ HQ1.out ?_); rfl; simp only [Act.put, List.setIfInBounds_toArray, List.set_cons_zero, List.set_cons_succ]; go_big_quiet_on)
          | (go_big_quiet_want; (with_reducible refine quiet_loadV 79 (.tmp 22) rfl _ ?_ _ HQ2.out ?_); rfl; simp only [Act.put, List.setIfInBounds_toArray, List.set_cons_zero, List.set_cons_succ]; go_big_quiet_on)
          | go_big_quiet_step (fail))
        refine wpQuiet_nil ?_
        rintro wk ⟨⟨_, hwk⟩, rfl⟩
        go_wp2
        go_ret
        exact ⟨by rw [HRR.out]; rfl, HBN.out.trans (hwk.mono HBN.out.size)⟩
      | true =>
        rw [hq] at he
        have HNY := Lib.hid (HNX.out hq)
        clear HRF HNX hq
        generalize (encI xs[k]!).toArray = X at *
        generalize (encI ys[k]!).toArray = Y at *
        go_upto_region 6 with fail
        refine wp_region_kept wr.heap.size wr (Below.refl _ _) (by kernel_rfl) (by kernel_rfl) ?_
        repeat (first
          | (go_big_quiet_want; (with_reducible refine quiet_loadV 79 (.tmp 18) rfl _ ?_ _ HQ1.out ?_); rfl; simp only [Act.put, List.setIfInBounds_toArray, List.set_cons_zero, List.set_cons_succ]; go_big_quiet_on)
          | (go_big_quiet_want; (with_reducible refine quiet_loadV 79 (.tmp 22) rfl _ ?_ _ HQ2.out ?_); rfl; simp only [Act.put, List.setIfInBounds_toArray, List.set_cons_zero, List.set_cons_succ]; go_big_quiet_on)
          | go_big_quiet_step (fail))
        refine wpQuiet_nil ?_
        rintro wk ⟨⟨_, hwk⟩, rfl⟩
        have HBW := Lib.hid (HNY.out _ (HBN.out.trans (hwk.mono HBN.out.size)))
        clear hwk
        go_wp2
        go_roundw
        case rel => exact HBW.out
        case measure => simp [RowKit.intOf]; omega
    · have hlt' : ¬ (k : Int) < (n : Int) := by omega
      have HRT : Hid (r = true) := Lib.hid (HT.out (fun j hj => HD.out j (by omega)))
      have HBR := Lib.hid hbr
      clear HT HF HD HL1 HL2 hbr
      go_wp2
      go_ret
      exact ⟨by rw [HRT.out]; rfl, HBR.out⟩
theorem eq_any (A A' : Option Addr) (c c' : Nat) (xs ys : List Ins) (w : World) (hx : xs.length ≤ 10000) (hA : IAt w w.heap.size A xs) (hA' : IAt w w.heap.size A' ys) :
    Calls Tryz.prog 63 #[.slice A xs.length c, .slice A' ys.length c'] w fun e w' => e = .returned (.bool (sameR xs ys)) ∧ Below w.heap.size w w' := by
  by_cases h : xs.length = ys.length
  · rcases hA with rfl | ⟨g1, o1, rfl, hg1, hr1⟩
    · have hy : ys = [] := List.eq_nil_of_length_eq_zero (by simpa using h.symm)
      subst hy
      refine (eq_none A A' c c' w).mono ?_
      rintro e w' ⟨rfl, rfl⟩
      exact ⟨rfl, Below.refl _ _⟩
    · rcases hA' with rfl | ⟨g2, o2, rfl, hg2, hr2⟩
      · have hx0 : xs = [] := List.eq_nil_of_length_eq_zero (by simpa using h)
        subst hx0
        refine (eq_none _ A' c c' w).mono ?_
        rintro e w' ⟨rfl, rfl⟩
        exact ⟨rfl, Below.refl _ _⟩
      · rw [← h]
        exact eq_some g1 o1 c g2 o2 c' xs.length xs ys w rfl h.symm hx hg1 hr1 hg2 hr2
  · have hs : sameR xs ys = false := by unfold sameR; rw [decide_eq_false h, Bool.false_and]
    rw [hs]
    refine (eq_len A A' _ _ c c' w h).mono ?_
    rintro e w' ⟨rfl, rfl⟩
    exact ⟨rfl, Below.refl _ _⟩
theorem same_any (A A' : Option Addr) (c c' : Nat) (xs ys : List Ins) (w : World) (hx : xs.length ≤ 10000) (hA : IAt w w.heap.size A xs) (hA' : IAt w w.heap.size A' ys) :
    Calls Tryz.prog 37 #[.slice A xs.length c, .slice A' ys.length c'] w fun e w' => e = .returned (.bool (sameR xs ys)) ∧ Below w.heap.size w w' := by
  have H := Lib.hid (eq_any A A' c c' xs ys w hx hA hA')
  clear hA hA'
  go_enter Tryz.func37, Tryz.ntmps37
  go_wp2_with (first | (go_at_call 63; (with_reducible refine H.out.mono ?_); rintro e w1 ⟨rfl, hb1⟩))
  go_ret
  exact ⟨rfl, hb1⟩
end Go.Proofs.YtehgpnnfjgmiiaaGreat
end
section
namespace Go.Proofs.YtehgpnnfjgmiiaaGreat
open Go.Shelf Go.RowKit Go.Lib Go.Great
set_option maxRecDepth 100000
set_option maxHeartbeats 2000000
end Go.Proofs.YtehgpnnfjgmiiaaGreat
end
section
namespace Go.Proofs.YtehgpnnfjgmiiaaGreat
open Go.Shelf Go.RowKit Go.Lib Go.Great
set_option maxRecDepth 100000
set_option maxHeartbeats 1000000
end Go.Proofs.YtehgpnnfjgmiiaaGreat
end
section
namespace Go.Proofs.YtehgpnnfjgmiiaaGreat
open Go.Shelf Go.RowKit Go.Lib Go.Great
set_option maxRecDepth 100000
set_option maxHeartbeats 2000000
/-- In order, by publishers. -/
def SrtP (L : List Ins) : Prop := ∀ i j, i < j → j < L.length → cmpP L[i]! L[j]! < 0
end Go.Proofs.YtehgpnnfjgmiiaaGreat
end
section
namespace Go.Proofs.YtehgpnnfjgmiiaaGreat
open Go.Shelf Go.RowKit Go.Lib Go.Great
set_option maxRecDepth 100000
set_option maxHeartbeats 400000
theorem own_bel {w w' : World} {base n : Nat} {v : Value} {L : List Ins} (h : w.ownsRow base 79 28 v n (flatE encI L)) (hb : Below w.heap.size w w') : w'.ownsRow base 79 28 v n (flatE encI L) :=
  h.kept (grown_of_bel hb none) (by cases v.ownBlock <;> simp)
end Go.Proofs.YtehgpnnfjgmiiaaGreat
end
