/- Good of the program: rosters. Conditions: at most 10,000 instances, targets of at most 100,000 bytes. chosen of the program, the publisher's own one, and what the sequence yields. Conditions: a length that an int holds. What the sequence of chosen ones yields. Conditions: a length that an int holds; the body keeps what lay below a bound. -/
import Derived.Test.YtkceipkgebgigaaGreatProg
import Derived.Test.YtkceipkgebgigaaGreatXOaa
import Derived.Test.YtkceipkgebgigaaGreatXIil
import Derived.Test.YtkceipkgebgigaaGreatXJLcc
import Derived.RangeFuncBox
section
namespace Go.Proofs.YtkceipkgebgigaaGreat
open Go.Shelf Go.RowKit Go.Lib Go.Great
set_option maxRecDepth 100000
set_option maxHeartbeats 2000000
instance : Inhabited Ins := ⟨zeroI⟩
/-- What is asked of the one at a place. -/
def okAt (L : List Ins) (k : Nat) : Bool := goodI L[k]! && (decide (k = 0) || decide (cmpP L[k - 1]! L[k]! < 0))
/-- A roster is good. -/
def goodR (L : List Ins) : Bool := decide (L.length ≤ 16) && (List.range L.length).all (okAt L)
theorem goodR_iff (L : List Ins) : goodR L = true ↔ L.length ≤ 16 ∧ ∀ k, k < L.length → okAt L k = true := by
  unfold goodR
  rw [Bool.and_eq_true, decide_eq_true_eq, List.all_eq_true]
  simp only [List.mem_range]
theorem row_at {w : World} {g off k : Nat} {L : List Ins} (h : w.rangeAt g off (flatE encI L)) (hk : k < L.length) : w.rangeAt g (off + k * 28) (encI L[k]!) := by
  intro j v hv
  have hj : j < 28 := by
    have := (List.getElem?_eq_some_iff.1 hv).1
    rwa [encI_length] at this
  have e := flatE_get encI_length (by omega) L k _ j (List.getElem?_eq_getElem hk) hj
  rw [getElem!_pos L k hk] at hv
  rw [hv] at e
  rw [Nat.add_assoc]
  exact h _ v e
theorem row_load {w W : World} {B g off : Nat} {L : List Ins} (h : w.rangeAt g off (flatE encI L)) (hg : g < B) (hb : Below B w W) {k : Nat} (hk : k < L.length) : (loadVar 29 ⟨g, off + k * 28, none⟩).run Tryz.prog W = .ok (.agg (encI L[k]!).toArray) W :=
  load28 (row_at (rangeAt_below h (hb.block g hg)) hk)
theorem gd_long (A : Option Addr) (n c : Nat) (w : World) (hn : 16 < n) : Calls Tryz.prog 13 #[.slice A n c] w fun e w' => e = .returned (.bool false) ∧ w' = w := by
  have hn' : (n : Int) > 16 := by omega
  go_enter Tryz.func13, Tryz.ntmps13
  go_wp2
  go_ret
  exact ⟨rfl, rfl⟩
theorem gd_none (A : Option Addr) (c : Nat) (w : World) : Calls Tryz.prog 13 #[.slice A 0 c] w fun e w' => e = .returned (.bool true) ∧ w' = w := by
  go_enter Tryz.func13, Tryz.ntmps13
  go_wp2
  go_loopg [10] 0 (fun _ s wr => s = .int .i64 0 ∧ wr = w)
  case atStart => exact ⟨rfl, rfl⟩
  case round =>
    obtain ⟨rfl, rfl⟩ := hrel
    go_wp2
    go_ret
    exact ⟨rfl, rfl⟩
theorem gd_some (b off c : Nat) (L : List Ins) (w : World) (hL : L.length ≤ 16) (ht : ∀ k, k < L.length → L[k]!.tgt.length ≤ 100000) (hb : b < w.heap.size) (hr : w.rangeAt b off (flatE encI L)) :
    Calls Tryz.prog 13 #[.slice (some ⟨b, off, none⟩) L.length c] w fun e w' => e = .returned (.bool (goodR L)) ∧ Below w.heap.size w w' := by
  have HLD : Hid (∀ k, k < L.length → ∀ W, Below w.heap.size w W → (loadVar 29 ⟨b, off + k * 28, none⟩).run Tryz.prog W = .ok (.agg (encI L[k]!).toArray) W) := Lib.hid (fun k hk W hW => row_load hr hb hW hk)
  have HGD : Hid (∀ k, k < L.length → ∀ W, Calls Tryz.prog 23 #[.agg (encI L[k]!).toArray] W fun e w' => e = .returned (.bool (goodI L[k]!)) ∧ Below W.heap.size W w') := Lib.hid (fun k hk W => igood_any _ (ht k hk) W)
  have HBP : Hid (∀ (i j : Nat) (W : World), Calls Tryz.prog 25 #[.agg (encI L[i]!).toArray, .agg (encI L[j]!).toArray] W fun e w' => e = .returned (.int .i64 (cmpP L[i]! L[j]!)) ∧ Below W.heap.size W w') := Lib.hid (fun i j W => byp_any _ _ W)
  have HT : Hid ((∀ k, k < L.length → okAt L k = true) → goodR L = true) := Lib.hid (fun h => (goodR_iff L).2 ⟨hL, h⟩)
  have HF : Hid (∀ k, k < L.length → okAt L k = false → goodR L = false) := Lib.hid (fun k hk h => by
    cases hg : goodR L with
    | false => rfl
    | true => rw [((goodR_iff L).1 hg).2 k hk] at h; cases h)
  have HO : Hid (∀ k, okAt L k = (goodI L[k]! && (decide (k = 0) || decide (cmpP L[k - 1]! L[k]! < 0)))) := Lib.hid (fun k => rfl)
  generalize goodR L = r at *
  generalize hn : L.length = n at *
  have hlen : ¬ (n : Int) > 16 := by omega
  clear hr ht
  go_enter Tryz.func13, Tryz.ntmps13
  go_wp2
  go_loopw [10] (fun i wr => ∃ k : Nat, i = .int .i64 (k : Int) ∧ k ≤ n ∧ (∀ j, j < k → okAt L j = true) ∧ Below w.heap.size w wr) (fun i _ => n - (RowKit.intOf i).toNat)
  case atStart => exact ⟨0, rfl, by omega, fun j hj => by omega, Below.refl _ _⟩
  case round =>
    obtain ⟨k, rfl, hk, hF, hbr⟩ := hrel
    have HD := Lib.hid hF
    clear hF
    by_cases hlt : k < n
    · have hlt' : (k : Int) < (n : Int) := by omega
      have hs0 := Lib.hid hbr.size
      have hbn : Below w.heap.size w (wr.alloc (.cells (encI L[k]!).toArray 29)) := hbr.alloc hbr.size _
      have HBN := Lib.hid hbn
      have hnew := heap_alloc_new wr (.cells (encI L[k]!).toArray 29)
      have HQ4 : Hid (∀ q : Kept (wr.alloc (.cells (encI L[k]!).toArray 29)).heap.size (wr.alloc (.cells (encI L[k]!).toArray 29)), (loadVar 29 ⟨wr.heap.size, 0, none⟩).run Tryz.prog q.val = .ok (.agg (encI L[k]!).toArray) q.val) := Lib.hid (fun q =>
        load28 (row_range (by rw [q.property.block _ (Array.getElem?_eq_some_iff.1 hnew).1]; exact hnew)))
      have hld := HLD.out k hlt wr hbr
      have HGK := Lib.hid (HGD.out k hlt)
      obtain ⟨Y, hY⟩ : ∃ Y : Ins, Y = L[k]! := ⟨_, rfl⟩
      have HY := Lib.hid hY
      have hok := HO.out k
      rw [← hY] at hnew hok hbn hld
      rw [← HY.out] at HQ4 HGK HBN
      have HLDV := Lib.hid hld
      have HW2 : Hid (∃ W2, W2 = wr.alloc (.cells (encI Y).toArray 29)) := Lib.hid ⟨_, rfl⟩
      clear hY hld hbn hnew
      cases hgk : goodI Y with
      | false =>
        rw [hgk] at hok HGK
        have HRF : Hid (r = false) := Lib.hid (HF.out k hlt (by rw [hok]; rfl))
        clear HT HF HO HD HLD HGD HBP hbr hok hgk
        go_upto_region 6 with (first
          | ((with_reducible refine wpList_loadV (op := ⟨some 14, _, _, _, _, _⟩) rfl 29 (.tmp 13) rfl _ ?_ _ HLDV.out ?_); rfl)
          | (with_reducible refine wpList_alloc28 (o := ⟨some 4, _, _, _, _, _⟩) wr.heap.size rfl rfl 4 rfl rfl ?_)
          | ((with_reducible refine wpList_store28n (o := ⟨none, _, _, _, _, _⟩) rfl (.tmp 4) (.tmp 14) rfl wr.heap.size rfl zeroI Y ?_ ?_ ?_); rfl; rfl))
        generalize (encI Y).toArray = X at *
        generalize wr.alloc (.cells X 29) = W2 at *
        simp only [Act.put, List.setIfInBounds_toArray, List.set_cons_zero, List.set_cons_succ]
        refine wp_region_kept W2.heap.size W2 (Below.refl _ _) (by kernel_rfl) (by kernel_rfl) ?_
        repeat (first
          | (go_big_quiet_want; (with_reducible refine quiet_loadV 29 (.tmp 4) rfl _ ?_ _ HQ4.out ?_); rfl; simp only [Act.put, List.setIfInBounds_toArray, List.set_cons_zero, List.set_cons_succ]; go_big_quiet_on)
          | go_big_quiet_step (first | (go_at_call 23; with_reducible exact kept_of (Nat.le_refl _) HGK.out _)))
        refine wpQuiet_nil ?_
        rintro wk ⟨⟨_, hwk⟩, rfl⟩
        go_wp2
        go_ret
        exact ⟨by rw [HRF.out]; rfl, HBN.out.trans (hwk.mono HBN.out.size)⟩
      | true =>
        rw [hgk] at hok HGK
        rw [Bool.true_and] at hok
        rcases Nat.eq_zero_or_pos k with rfl | hpos
        · have HRN : Hid (∃ k' : Nat, (RowKit.intOf (.int .i64 (((0 : Nat) : Int) + 1)) : Int) = (k' : Int)) := Lib.hid ⟨1, rfl⟩
          have HNX : Hid (∀ wx, Below w.heap.size w wx → ∃ k : Nat, Value.int .i64 1 = .int .i64 (k : Int) ∧ k ≤ n ∧ (∀ j, j < k → okAt L j = true) ∧ Below w.heap.size w wx) := Lib.hid (fun wx hx => ⟨1, rfl, by omega, fun j hj => by
            obtain rfl : j = 0 := by omega
            rw [hok]; rfl, hx⟩)
          clear HT HF HO HD HLD HGD HBP hbr hok hgk HRN
          go_upto_region 6 with (first
            | ((with_reducible refine wpList_loadV (op := ⟨some 14, _, _, _, _, _⟩) rfl 29 (.tmp 13) rfl _ ?_ _ HLDV.out ?_); rfl)
            | (with_reducible refine wpList_alloc28 (o := ⟨some 4, _, _, _, _, _⟩) wr.heap.size rfl rfl 4 rfl rfl ?_)
            | ((with_reducible refine wpList_store28n (o := ⟨none, _, _, _, _, _⟩) rfl (.tmp 4) (.tmp 14) rfl wr.heap.size rfl zeroI Y ?_ ?_ ?_); rfl; rfl))
          generalize (encI Y).toArray = X at *
          generalize wr.alloc (.cells X 29) = W2 at *
          simp only [Act.put, List.setIfInBounds_toArray, List.set_cons_zero, List.set_cons_succ]
          refine wp_region_kept W2.heap.size W2 (Below.refl _ _) (by kernel_rfl) (by kernel_rfl) ?_
          repeat (first
            | (go_big_quiet_want; (with_reducible refine quiet_loadV 29 (.tmp 4) rfl _ ?_ _ HQ4.out ?_); rfl; simp only [Act.put, List.setIfInBounds_toArray, List.set_cons_zero, List.set_cons_succ]; go_big_quiet_on)
            | go_big_quiet_step (first | (go_at_call 23; with_reducible exact kept_of (Nat.le_refl _) HGK.out _)))
          refine wpQuiet_nil ?_
          rintro wk ⟨⟨_, hwk⟩, rfl⟩
          have HBW := Lib.hid (HNX.out _ (HBN.out.trans (hwk.mono HBN.out.size)))
          clear hwk
          go_wp2
          go_roundw
          case rel => exact HBW.out
          case measure => simp [RowKit.intOf]; omega
        · obtain ⟨m, rfl⟩ : ∃ m, k = m + 1 := ⟨k - 1, by omega⟩
          have hlm : m < n := by omega
          have HQP : Hid (∀ q : Kept (wr.alloc (.cells (encI Y).toArray 29)).heap.size (wr.alloc (.cells (encI Y).toArray 29)), (loadVar 29 ⟨b, off + m * 28, none⟩).run Tryz.prog q.val = .ok (.agg (encI L[m]!).toArray) q.val) := Lib.hid (fun q =>
            HLD.out m hlm _ (HBN.out.trans (q.property.mono HBN.out.size)))
          have HCP := Lib.hid (HBP.out m (m + 1))
          rw [← HY.out] at HCP
          rw [show decide (m + 1 = 0) = false from decide_eq_false (by omega), Bool.false_or, Nat.add_sub_cancel] at hok
          obtain ⟨q, hq⟩ : ∃ q, q = cmpP L[m]! Y := ⟨_, rfl⟩
          rw [← hq] at hok HCP
          have hge : (q : Int) ≥ 0 ↔ okAt L (m + 1) = false := by
            rw [hok, decide_eq_false_iff_not]; omega
          have HNX : Hid (okAt L (m + 1) = true → ∀ wx, Below w.heap.size w wx → ∃ k : Nat, Value.int .i64 ((m : Int) + 1 + 1) = .int .i64 (k : Int) ∧ k ≤ n ∧ (∀ j, j < k → okAt L j = true) ∧ Below w.heap.size w wx) := Lib.hid (fun h wx hx => ⟨m + 1 + 1, by simp, by omega, fun j hj => by
            by_cases e : j = m + 1
            · subst e; exact h
            · exact HD.out j (by omega), hx⟩)
          have HRF := Lib.hid (HF.out (m + 1) hlt)
          cases hc : okAt L (m + 1) with
          | false =>
            have hge' := hge.2 hc
            have HRR : Hid (r = false) := Lib.hid (HRF.out hc)
            clear HT HF HO HD HLD HGD HBP hbr hok hgk hge hc HNX HRF hq
            go_upto_region 6 with (first
              | ((with_reducible refine wpList_loadV (op := ⟨some 14, _, _, _, _, _⟩) rfl 29 (.tmp 13) rfl _ ?_ _ HLDV.out ?_); rfl)
              | (with_reducible refine wpList_alloc28 (o := ⟨some 4, _, _, _, _, _⟩) wr.heap.size rfl rfl 4 rfl rfl ?_)
              | ((with_reducible refine wpList_store28n (o := ⟨none, _, _, _, _, _⟩) rfl (.tmp 4) (.tmp 14) rfl wr.heap.size rfl zeroI Y ?_ ?_ ?_); rfl; rfl))
            generalize (encI Y).toArray = X at *
            generalize (encI L[m]!).toArray = Z at *
            generalize wr.alloc (.cells X 29) = W2 at *
            simp only [Act.put, List.setIfInBounds_toArray, List.set_cons_zero, List.set_cons_succ]
            refine wp_region_kept W2.heap.size W2 (Below.refl _ _) (by kernel_rfl) (by kernel_rfl) ?_
            repeat (first
              | (go_big_quiet_want; (with_reducible refine quiet_loadV 29 (.tmp 4) rfl _ ?_ _ HQ4.out ?_); rfl; simp only [Act.put, List.setIfInBounds_toArray, List.set_cons_zero, List.set_cons_succ]; go_big_quiet_on)
              | (go_big_quiet_want; (with_reducible refine quiet_loadV 29 (.tmp 25) rfl _ ?_ _ HQP.out ?_); rfl; simp only [Act.put, List.setIfInBounds_toArray, List.set_cons_zero, List.set_cons_succ]; go_big_quiet_on)
              | go_big_quiet_step (first | (go_at_call 23; with_reducible exact kept_of (Nat.le_refl _) HGK.out _) | (go_at_call 25; with_reducible exact kept_of (Nat.le_refl _) HCP.out _)))
            refine wpQuiet_nil ?_
            rintro wk ⟨⟨_, hwk⟩, rfl⟩
            go_wp2
            go_ret
            exact ⟨by rw [HRR.out]; rfl, HBN.out.trans (hwk.mono HBN.out.size)⟩
          | true =>
            have hge' : ¬ q ≥ 0 := fun h => by rw [hge.1 h] at hc; cases hc
            have HNY := Lib.hid (HNX.out hc)
            clear HT HF HO HD HLD HGD HBP hbr hok hgk hge hc HNX HRF hq
            go_upto_region 6 with (first
              | ((with_reducible refine wpList_loadV (op := ⟨some 14, _, _, _, _, _⟩) rfl 29 (.tmp 13) rfl _ ?_ _ HLDV.out ?_); rfl)
              | (with_reducible refine wpList_alloc28 (o := ⟨some 4, _, _, _, _, _⟩) wr.heap.size rfl rfl 4 rfl rfl ?_)
              | ((with_reducible refine wpList_store28n (o := ⟨none, _, _, _, _, _⟩) rfl (.tmp 4) (.tmp 14) rfl wr.heap.size rfl zeroI Y ?_ ?_ ?_); rfl; rfl))
            generalize (encI Y).toArray = X at *
            generalize (encI L[m]!).toArray = Z at *
            generalize wr.alloc (.cells X 29) = W2 at *
            simp only [Act.put, List.setIfInBounds_toArray, List.set_cons_zero, List.set_cons_succ]
            refine wp_region_kept W2.heap.size W2 (Below.refl _ _) (by kernel_rfl) (by kernel_rfl) ?_
            repeat (first
              | (go_big_quiet_want; (with_reducible refine quiet_loadV 29 (.tmp 4) rfl _ ?_ _ HQ4.out ?_); rfl; simp only [Act.put, List.setIfInBounds_toArray, List.set_cons_zero, List.set_cons_succ]; go_big_quiet_on)
              | (go_big_quiet_want; (with_reducible refine quiet_loadV 29 (.tmp 25) rfl _ ?_ _ HQP.out ?_); rfl; simp only [Act.put, List.setIfInBounds_toArray, List.set_cons_zero, List.set_cons_succ]; go_big_quiet_on)
              | go_big_quiet_step (first | (go_at_call 23; with_reducible exact kept_of (Nat.le_refl _) HGK.out _) | (go_at_call 25; with_reducible exact kept_of (Nat.le_refl _) HCP.out _)))
            refine wpQuiet_nil ?_
            rintro wk ⟨⟨_, hwk⟩, rfl⟩
            have HBW := Lib.hid (HNY.out _ (HBN.out.trans (hwk.mono HBN.out.size)))
            clear hwk
            go_wp2
            go_roundw
            case rel => exact HBW.out
            case measure => simp [RowKit.intOf]; omega
    · have hlt' : ¬ (k : Int) < (n : Int) := by omega
      have HRT : Hid (r = true) := Lib.hid (HT.out (fun j hj => HD.out j (by omega)))
      have HBR := Lib.hid hbr
      clear HT HF HO HD HLD HGD HBP hbr
      go_wp2
      go_ret
      exact ⟨by rw [HRT.out]; rfl, HBR.out⟩
theorem goodR_long {L : List Ins} (h : 16 < L.length) : goodR L = false := by
  cases hg : goodR L with
  | false => rfl
  | true => have := ((goodR_iff L).1 hg).1; omega
/-- Good of the program. -/
theorem gd_any (A : Option Addr) (c : Nat) (L : List Ins) (w : World) (ht : ∀ x ∈ L, x.tgt.length ≤ 100000) (hA : IAt w w.heap.size A L) :
    Calls Tryz.prog 13 #[.slice A L.length c] w fun e w' => e = .returned (.bool (goodR L)) ∧ Below w.heap.size w w' := by
  by_cases hl : 16 < L.length
  · rw [goodR_long hl]
    refine (gd_long A L.length c w hl).mono ?_
    rintro e w' ⟨rfl, rfl⟩
    exact ⟨rfl, Below.refl _ _⟩
  · rcases hA with rfl | ⟨g, off, rfl, hg, hr⟩
    · refine (gd_none A c w).mono ?_
      rintro e w' ⟨rfl, rfl⟩
      exact ⟨rfl, Below.refl _ _⟩
    · exact gd_some g off c L w (by omega) (fun k hk => ht _ (by rw [getElem!_pos L k hk]; exact List.getElem_mem hk)) hg hr
end Go.Proofs.YtkceipkgebgigaaGreat
end
section
namespace Go.Proofs.YtkceipkgebgigaaGreat
open Go.Shelf Go.RowKit Go.Lib Go.Great
set_option maxRecDepth 100000
set_option maxHeartbeats 400000
section
variable {F : Fence} {n : Nat} {P : Program} {ops : Array Oper} {rest : List Oper} {o : Oper} {a : Act} {w : World} {Q : Exit → Act → World → Prop}
/-- A load, inside a fence. -/
theorem wpListIn_loadV (hw : Region.wanted o (yielded ops a.tmps) = true) (ty : TypeId) (x : Operand) (ho : o.op = .load ty x) (p : Addr) (hx : a.eval x = .pointer (some p)) (v : Value) (hl : (loadVar ty p).run P w = .ok v w)
    (h : wpListIn F n P ops Q rest (a.put o.dst v) w) : wpListIn F n P ops Q (o :: rest) a w :=
  BigFrame.wpListIn_want hw fun K hK => by
    refine ⟨fun f hf => by simp [Oper.about, ho] at hf, ?_⟩
    rw [Oper.semAt_plain F _ _ (by rw [ho]; intro c hc'; cases hc')]
    unfold execOp
    simp only [ho, hx, Instr.loadAt, Instr.sureAddr, Sem.run_bind, Sem.run_pure, Result.andThen_ok, hl]
    exact hK _ _ h
end
section
variable {F : Fence} {n : Nat} {ops : Array Oper} {rest : List Oper} {o : Oper} {a : Act} {w : World} {Q : Exit → Act → World → Prop}
theorem wpListIn_alloc28 (k : Nat) (hn : w.heap.size = k) (hw : Region.wanted o (yielded ops a.tmps) = true) (d : Nat) (hd : o.dst = some d) (ho : o.op = .alloc 29)
    (h : wpListIn F n Tryz.prog ops Q rest (a.put (some d) (.pointer (some ⟨k, 0, none⟩))) (w.alloc (.cells (encI zeroI).toArray 29))) : wpListIn F n Tryz.prog ops Q (o :: rest) a w :=
  BigFrame.wpListIn_want hw fun K hK => by
    subst hn
    refine ⟨fun f hf => by simp [Oper.about, ho] at hf, ?_⟩
    rw [Oper.semAt_plain F _ _ (by rw [ho]; intro c hc'; cases hc')]
    have hz := fun W => zV28 W
    generalize (encI zeroI).toArray = Z at hz h
    unfold execOp
    simp only [ho, Instr.alloc, Sem.run_bind, hz, Result.andThen_ok, Value.cells]
    simp [Oper.uponIn, hd]
    exact hK _ _ h
theorem wpListIn_store28 (hw : Region.wanted o (yielded ops a.tmps) = true) (x y : Operand) (ho : o.op = .store 29 x y) (g : Nat) (c : Ins) (hx : a.eval x = .pointer (some ⟨g, 0, none⟩)) (hy : a.eval y = .agg (encI c).toArray)
    (ht : w.there g 0 28) (h : wpListIn F n Tryz.prog ops Q rest (a.put o.dst undef) (w.setCells g 0 (encI c))) : wpListIn F n Tryz.prog ops Q (o :: rest) a w :=
  BigFrame.wpListIn_want hw fun K hK => by
    have hsz : (encI c).toArray.size = 28 := by rw [List.size_toArray, encI_length]
    refine ⟨fun f hf => by simp [Oper.about, ho] at hf, ?_⟩
    rw [Oper.semAt_plain F _ _ (by rw [ho]; intro c hc'; cases hc')]
    unfold execOp
    simp only [ho, hx, hy, Instr.storeAt, Instr.sureAddr, Sem.run_bind, Sem.run_pure, Result.andThen_ok, run_storeVar_mid w g 0 29 (encI c).toArray (by rw [hsz]; exact ht) (by rw [hsz]; exact size28i) (encI_all c)]
    exact hK _ _ h
theorem wpListIn_store28n (hw : Region.wanted o (yielded ops a.tmps) = true) (x y : Operand) (ho : o.op = .store 29 x y) (k : Nat) (hn : w.heap.size = k) (z c : Ins) (hx : a.eval x = .pointer (some ⟨k, 0, none⟩)) (hy : a.eval y = .agg (encI c).toArray)
    (h : wpListIn F n Tryz.prog ops Q rest (a.put o.dst undef) (w.alloc (.cells (encI c).toArray 29))) : wpListIn F n Tryz.prog ops Q (o :: rest) a (w.alloc (.cells (encI z).toArray 29)) := by
  subst hn
  refine wpListIn_store28 hw x y ho w.heap.size c hx hy ?_ ?_
  · have := there_new w 29 (encI z)
    rwa [encI_length] at this
  · rw [setCells_all w 29 (encI z) (encI c) (by rw [encI_length, encI_length])]
    exact h
/-- A call of a function value, inside a fence that fences nothing off. -/
theorem wpListIn_callV (hF : ∀ f, F.fn f) (hwd : F = Fence.wide ∨ ∃ l, F = Fence.wide.inRound l) (hn1 : 1 ≤ n) (hw : Region.wanted o (yielded ops a.tmps) = true) (f : Nat) (caps : Array Value) (x : Operand) {xs : Array Operand} {ts : Array TypeId} (ho : o.op = .call { callee := .value x, args := xs, argTypes := ts })
    (hx : a.eval x = .func (.func f) #[] caps) (eg : ∀ args w, (callFunc f args).run Tryz.prog w = .ok (.enter f args) w) (args : Array Value) (hargs : xs.map a.eval = args)
    (h : Calls Tryz.prog f (args ++ caps) w fun e w' => ∃ v, e = .returned v ∧ wpListIn F n Tryz.prog ops Q rest (a.put o.dst v) w') : wpListIn F n Tryz.prog ops Q (o :: rest) a w :=
  BigFrame.wpListIn_want hw fun K hK => by
    refine ⟨fun f hf => hF f, ?_⟩
    rw [Oper.semAt_plain F _ _ (by rw [ho]; intro c hc'; cases hc'), callV_run f caps x ho hx eg args hargs, Oper.uponIn_enter]
    refine ⟨fun _ => hn1, ?_⟩
    have hc : CallsIn F (n - 1) Tryz.prog f (args ++ caps) w fun e w' => ∃ v, e = .returned v ∧ wpListIn F n Tryz.prog ops Q rest (a.put o.dst v) w' := by
      rcases hwd with rfl | ⟨l, rfl⟩
      · exact callsIn_wide.2 h
      · exact CallsIn.inRound l (callsIn_wide.2 h)
    exact hc.mono (by rintro e w'' ⟨v, rfl, h1⟩; exact hK _ _ h1)
end
theorem chosen_any (A : Option Addr) (n c : Nat) (fv : Value) (hfv : ∃ f cs, fv = .func (.func f) #[] cs) (w : World) : Calls Tryz.prog 36 #[.slice A n c, fv] w fun e w' => e = .returned (.func (.func 73) #[] #[.pointer (some ⟨w.heap.size, 0, none⟩), .pointer (some ⟨w.heap.size + 1, 0, none⟩)]) ∧ w' = (w.alloc (.cells #[.slice A n c] 22)).alloc (.cells #[fv] 47) := by
  obtain ⟨f, cs, rfl⟩ := hfv
  go_enter Tryz.func36, Tryz.ntmps36
  go_wp2
  go_ret
  exact ⟨rfl, rfl⟩
theorem get1_any (x : Ins) (p : List UInt8) (hp : p.length = 20) (B : Nat) (w : World) (h : w.heap[B]? = some (.cells (bcells p).toArray 24 (0, 0))) : Calls Tryz.prog 37 #[.agg (encI x).toArray, .pointer (some ⟨B, 0, none⟩)] w fun e w' => e = .returned (.bool (x.pub == p)) ∧ Below w.heap.size w w' := by
  have hb : Below w.heap.size w (w.alloc (.cells (encI x).toArray 29)) := (Below.refl _ w).alloc (Nat.le_refl _) _
  have HX := Lib.hid (load23 (row_range (heap_alloc_new w (.cells (encI x).toArray 29))))
  have HP : Hid ((loadVar 24 ⟨B, 0, none⟩).run Tryz.prog (w.alloc (.cells (encI x).toArray 29)) = .ok (.agg (bcells p).toArray) (w.alloc (.cells (encI x).toArray 29))) := Lib.hid (by
    have h2 : (w.alloc (.cells (encI x).toArray 29)).heap[B]? = some (.cells (bcells p).toArray 24 (0, 0)) := (hb.block _ (Array.getElem?_eq_some_iff.1 h).1).trans h
    exact run_loadVar_mid _ B 0 24 (bcells p) _ (row_range h2) Tryz.underlying24 rfl (by rw [bcells_length, hp]; exact size23i))
  have heq := fun W => eq23 x.pub p x.hp hp W 9998
  have HB := Lib.hid hb
  clear hb h
  go_enter Tryz.func37, Tryz.ntmps37
  go_wp2_with (first
    | ((with_reducible refine wpList_loadV (op := ⟨some 5, _, _, _, _, _⟩) rfl 24 (.tmp 4) rfl _ ?_ _ HX.out ?_); rfl)
    | ((with_reducible refine wpList_loadV (op := ⟨some 6, _, _, _, _, _⟩) rfl 24 (.tmp 1) rfl _ ?_ _ HP.out ?_); rfl))
  go_ret
  exact ⟨rfl, HB.out⟩
end Go.Proofs.YtkceipkgebgigaaGreat
end
section
namespace Go.Proofs.YtkceipkgebgigaaGreat
open Go.Shelf Go.RowKit Go.Lib Go.Great
set_option maxRecDepth 100000
set_option maxHeartbeats 400000
theorem filter_at (L : List Ins) (q : Ins → Bool) (k : Nat) (hk : k < L.length) : L.filter q = (L.take k).filter q ++ (if q L[k]! then [L[k]!] else []) ++ (L.drop (k + 1)).filter q := by
  have e : L = L.take k ++ L[k]! :: L.drop (k + 1) := by
    rw [getElem!_pos L k hk, ← List.drop_eq_getElem_cons hk, List.take_append_drop]
  conv => lhs; rw [e]
  rw [List.filter_append, List.filter_cons]
  split <;> simp
theorem filter_next (L : List Ins) (q : Ins → Bool) (k : Nat) (hk : k < L.length) : (L.take (k + 1)).filter q = (L.take k).filter q ++ (if q L[k]! then [L[k]!] else []) := by
  have e : L.take (k + 1) = L.take k ++ [L[k]!] := by
    rw [List.take_add_one, List.getElem?_eq_getElem hk, getElem!_pos L k hk]; rfl
  rw [e, List.filter_append, List.filter_cons, List.filter_nil]
theorem chosen_stops (m : Nat) (hm : 2 ≤ m) (A : Option Addr) (c : Nat) (L : List Ins) (q : Ins → Bool) (caps : Array Value) (Bs Bf n₀ : Nat) (w : World) (hL : L.length ≤ 9223372036854775807) (hn₀ : n₀ ≤ w.heap.size) (hBs : Bs < n₀) (hBf : Bf < n₀)
    (hcs : w.cell? ⟨Bs, 0, none⟩ = some (.slice A L.length c)) (hcf : w.cell? ⟨Bf, 0, none⟩ = some (.func (.func 37) #[] caps)) (hA : IAt w n₀ A L)
    (hq : ∀ x W, Below n₀ w W → Calls Tryz.prog 37 (#[.agg (encI x).toArray] ++ caps) W fun e w' => e = .returned (.bool (q x)) ∧ Below W.heap.size W w') :
    SeqStopsK Fence.wide m Tryz.prog 73 #[.pointer (some ⟨Bs, 0, none⟩), .pointer (some ⟨Bf, 0, none⟩)] (fun x : Ins => #[.agg (encI x).toArray]) (Below n₀) (fun xs => xs = L.filter q) (fun pre => pre <+: L.filter q) (L.filter q).length w := fun l J Jx W hW hJ hJx hY h0 => by
  have HCS : Hid (∀ W', Below n₀ w W' → W'.cell? ⟨Bs, 0, none⟩ = some (.slice A L.length c)) := Lib.hid (fun W' h => (h.cell (p := ⟨Bs, 0, none⟩) hBs).trans hcs)
  have HCF : Hid (∀ W', Below n₀ w W' → W'.cell? ⟨Bf, 0, none⟩ = some (.func (.func 37) #[] caps)) := Lib.hid (fun W' h => (h.cell (p := ⟨Bf, 0, none⟩) hBf).trans hcf)
  have HQ := Lib.hid hq
  have hW0 : Below n₀ w W := hW.mono hn₀
  have HLD : Hid (∀ k, k < L.length → ∃ b off, A = some ⟨b, off, none⟩ ∧ ∀ W', Below n₀ w W' → (loadVar 29 ⟨b, off + k * 28, none⟩).run Tryz.prog W' = .ok (.agg (encI L[k]!).toArray) W') := Lib.hid (fun k hk => by
    rcases hA with rfl | ⟨g, off, rfl, hg, hr⟩
    · simp at hk
    · exact ⟨g, off, rfl, fun W' hW' => row_load hr hg hW' hk⟩)
  have HY := Lib.hid hY
  have HJ := Lib.hid hJ
  have HFA := Lib.hid (filter_at L q)
  have HFN := Lib.hid (filter_next L q)
  have hcell := HCS.out W hW0
  obtain ⟨n, hn⟩ : ∃ n, n = L.length := ⟨_, rfl⟩
  have HSZ := Lib.hid hn₀
  have R0 : Hid (∃ k : Nat, Value.int .i64 0 = .int .i64 (k : Int) ∧ k ≤ n ∧ J ((L.take k).filter q) W ∧ Below n₀ w W) := Lib.hid ⟨0, rfl, by omega, by simpa using h0, hW0⟩
  have HEND : Hid (∀ W', J ((L.take n).filter q) W' → J (L.filter q) W') := Lib.hid (fun W' h => by rw [hn, List.take_length] at h; exact h)
  rw [← hn] at HLD HFA HFN hcell hL
  clear hY hJ hJx h0 hq hcs hcf hA hW0 HCS hW hBs hBf hn₀
  refine callsIn_of_wp Tryz.func73 rfl trivial ?_ rfl
  simp only [Tryz.ntmps73, List.size_toArray, List.length_cons, List.length_nil, Nat.reduceAdd, Nat.reduceSub, Array.replicate_succ, Array.replicate_zero, List.push_toArray, List.append_toArray, List.nil_append, List.cons_append]
  gi_wp2
  gi_loopw [8] (fun i wr => ∃ k : Nat, i = .int .i64 (k : Int) ∧ k ≤ n ∧ J ((L.take k).filter q) wr ∧ Below n₀ w wr) (fun i _ => n - (RowKit.intOf i).toNat)
  case atStart => exact R0.out
  case round =>
    obtain ⟨k, rfl, hk, hJw, hbr⟩ := hrel
    clear R0
    by_cases hlt : k < n
    · have hlt' : (k : Int) < (n : Int) := by omega
      obtain ⟨b, off, rfl, hld⟩ := HLD.out k hlt
      have hld := Lib.hid (hld wr hbr)
      have hba0 : Below wr.heap.size wr (wr.alloc (.cells (encI L[k]!).toArray 29)) := (Below.refl _ wr).alloc (Nat.le_refl _) _
      have hnew := heap_alloc_new wr (.cells (encI L[k]!).toArray 29)
      have hbs := hbr.size
      have hsz := HSZ.out
      have hfa := HFA.out k hlt
      have hfn := HFN.out k hlt
      have hba : Below n₀ w (wr.alloc (.cells (encI L[k]!).toArray 29)) := hbr.trans (hba0.mono (by omega))
      have hcf := HCF.out _ hba
      have HW := Lib.hid (HQ.out L[k]! _ hba)
      have HLX : Hid (∀ W', Below (wr.alloc (.cells (encI L[k]!).toArray 29)).heap.size (wr.alloc (.cells (encI L[k]!).toArray 29)) W' → (loadVar 29 ⟨wr.heap.size, 0, none⟩).run Tryz.prog W' = .ok (.agg (encI L[k]!).toArray) W') := Lib.hid (fun W' h => load28 (row_range (by rw [h.block _ (Array.getElem?_eq_some_iff.1 hnew).1]; exact hnew)))
      have HJ1 : Hid (∀ w1, Below (wr.alloc (.cells (encI L[k]!).toArray 29)).heap.size (wr.alloc (.cells (encI L[k]!).toArray 29)) w1 → J ((L.take k).filter q) w1 ∧ Below n₀ w w1) := Lib.hid (fun w1 h => by
        have h1 := hba0.trans (h.mono hba0.size)
        exact ⟨HJ.out _ _ _ _ hJw (below_grown h1) (fun r e => by cases e), hbr.trans (h1.mono (by omega))⟩)
      clear HLD HFA HFN HEND HQ HCF HJ hJw hbr hba hnew
      generalize L[k]! = x at *
      generalize (L.take k).filter q = pre at *
      generalize (L.drop (k + 1)).filter q = post at *
      have eg83 : ∀ args w, (callFunc 37 args).run Tryz.prog w = .ok (.enter 37 args) w := enters_of Tryz.func37 (by kernel_rfl) rfl
      cases hqx : q x
      · rw [hqx] at hfn HW
        simp only [Bool.false_eq_true, if_false, List.append_nil] at hfn
        have HR : Hid (∀ w1, J pre w1 ∧ Below n₀ w w1 → ∃ k' : Nat, Value.int .i64 ((k : Int) + 1) = .int .i64 (k' : Int) ∧ k' ≤ n ∧ J ((L.take k').filter q) w1 ∧ Below n₀ w w1) := Lib.hid (fun w1 h => ⟨k + 1, by simp, by omega, by rw [hfn]; exact h.1, h.2⟩)
        clear hfn hfa HY hba0
        gi_wp2_with (first
          | ((with_reducible refine wpListIn_loadV (o := ⟨some 11, _, _, _, _, _⟩) rfl 29 (.tmp 10) rfl _ ?_ _ hld.out ?_); rfl)
          | (with_reducible refine wpListIn_alloc28 (o := ⟨some 5, _, _, _, _, _⟩) wr.heap.size rfl rfl 5 rfl rfl ?_)
          | ((with_reducible refine wpListIn_store28n (o := ⟨none, _, _, _, _, _⟩) rfl (.tmp 5) (.tmp 11) rfl wr.heap.size rfl zeroI x ?_ ?_ ?_); rfl; rfl)
          | ((with_reducible refine wpListIn_loadV (o := ⟨some 13, _, _, _, _, _⟩) rfl 29 (.tmp 5) rfl _ ?_ _ (HLX.out _ (Below.refl _ _)) ?_); rfl)
          | ((refine wpListIn_callV (o := ⟨some 14, _, _, _, _, _⟩) (xs := #[.tmp 13]) (ts := #[29]) (fun _ => trivial) (.inl rfl) (by omega) rfl 37 caps (.tmp 12) rfl rfl eg83 #[.agg (encI x).toArray] (by simp only [List.map_toArray, List.map_cons, List.map_nil]; rfl) ?_); (with_reducible refine HW.out.mono ?_); rintro e w1 ⟨rfl, hb1⟩; refine ⟨_, rfl, ?_⟩; have hj1 := Lib.hid (HJ1.out _ hb1)))
        refine ⟨(fun f hf => by cases hf), ?_⟩
        gi_wp2
        go_roundw
        case rel => exact HR.out _ hj1.out
        case measure => simp [RowKit.intOf]; omega
      · rw [hqx] at hfn hfa HW
        simp only [if_true] at hfn hfa
        have hlen : pre.length < (L.filter q).length := by rw [hfa]; simp
        have HP : Hid ((pre ++ [x]) <+: L.filter q) := Lib.hid ⟨post, hfa.symm⟩
        have HR : Hid (∀ w1, J (pre ++ [x]) w1 → Below n₀ w w1 → ∃ k' : Nat, Value.int .i64 ((k : Int) + 1) = .int .i64 (k' : Int) ∧ k' ≤ n ∧ J ((L.take k').filter q) w1 ∧ Below n₀ w w1) := Lib.hid (fun w1 h h2 => ⟨k + 1, by simp, by omega, by rw [hfn]; exact h, h2⟩)
        clear hfn hfa hba0
        gi_wp2_with (first
          | ((with_reducible refine wpListIn_loadV (o := ⟨some 11, _, _, _, _, _⟩) rfl 29 (.tmp 10) rfl _ ?_ _ hld.out ?_); rfl)
          | (with_reducible refine wpListIn_alloc28 (o := ⟨some 5, _, _, _, _, _⟩) wr.heap.size rfl rfl 5 rfl rfl ?_)
          | ((with_reducible refine wpListIn_store28n (o := ⟨none, _, _, _, _, _⟩) rfl (.tmp 5) (.tmp 11) rfl wr.heap.size rfl zeroI x ?_ ?_ ?_); rfl; rfl)
          | ((with_reducible refine wpListIn_loadV (o := ⟨some 13, _, _, _, _, _⟩) rfl 29 (.tmp 5) rfl _ ?_ _ (HLX.out _ (Below.refl _ _)) ?_); rfl)
          | ((refine wpListIn_callV (o := ⟨some 14, _, _, _, _, _⟩) (xs := #[.tmp 13]) (ts := #[29]) (fun _ => trivial) (.inl rfl) (by omega) rfl 37 caps (.tmp 12) rfl rfl eg83 #[.agg (encI x).toArray] (by simp only [List.map_toArray, List.map_cons, List.map_nil]; rfl) ?_); (with_reducible refine HW.out.mono ?_); rintro e w1 ⟨rfl, hb1⟩; refine ⟨_, rfl, ?_⟩; have hj1 := Lib.hid (HJ1.out _ hb1); have hlx := Lib.hid (HLX.out _ hb1); obtain ⟨fn, tmps, assign, body, hy, hR⟩ := HY.out pre x w1 hj1.out.1 hlen)
          | ((with_reducible refine wpListIn_loadV (o := ⟨some 17, _, _, _, _, _⟩) rfl 29 (.tmp 5) rfl _ ?_ _ hlx.out ?_); rfl))
        refine ⟨fun _ => by omega, hR.mono ?_⟩
        rintro e W3 (⟨rfl, hJ3, hk3⟩ | ⟨rfl, hJx3⟩)
        · gi_wp2
          go_roundw
          case rel => exact HR.out _ hJ3 (hj1.out.2.trans hk3)
          case measure => simp [RowKit.intOf]; omega
        · gi_wp2
          refine bodyPost_ret (results_none rfl _ _ _) rfl ?_
          exact ⟨⟨_, rfl⟩, .inr ⟨pre ++ [x], HP.out, hJx3⟩⟩
    · obtain rfl : k = n := by omega
      have hj := Lib.hid (HEND.out _ hJw)
      clear HLD HFA HFN HEND HY HJ HQ HCF hbr hJw
      gi_wp2
      go_end0
      exact ⟨⟨_, rfl⟩, .inl ⟨_, rfl, hj.out⟩⟩
end Go.Proofs.YtkceipkgebgigaaGreat
end
