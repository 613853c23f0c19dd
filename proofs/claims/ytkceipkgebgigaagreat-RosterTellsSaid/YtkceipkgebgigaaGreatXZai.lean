/- The choosing functions of Live and Sweep, and what their sequences yield. Conditions: a length that an int holds. A loop over a sequence whose rounds all go on, and whose variable lies in a block of its own; slices.Collect at instances. Condition: at most 10,000 instances. -/
import Derived.Test.YtkceipkgebgigaaGreatXZaf
import Derived.Test.YtkceipkgebgigaaGreatXObc
import Derived.Test.YtkceipkgebgigaaGreatXJLla
import Derived.Test.YtkceipkgebgigaaGreatXOsc
import Derived.RangeFuncBox
section
namespace Go.Proofs.YtkceipkgebgigaaGreat
open Go.Shelf Go.RowKit Go.Lib Go.Great
set_option maxRecDepth 100000
set_option maxHeartbeats 400000
theorem load25 {w : World} {a : Addr} {n : Int} (h : w.cell? a = some (.int .u64 n)) : (loadVar 25 a).run Tryz.prog w = .ok (.int .u64 n) w := by simp [loadVar, h]
theorem live1_any (x : Ins) (now : Nat) (B : Nat) (w : World) (h : w.heap[B]? = some (.cells #[.int .u64 (now : Int)] 25 (0, 0))) : Calls Tryz.prog 41 #[.agg (encI x).toArray, .pointer (some ⟨B, 0, none⟩)] w fun e w' => e = .returned (.bool (liveI now x)) ∧ Below w.heap.size w w' := by
  have hb : Below w.heap.size w (w.alloc (.cells (encI x).toArray 29)) := (Below.refl _ w).alloc (Nat.le_refl _) _
  obtain ⟨w1, hw1⟩ : ∃ y, y = w.alloc (.cells (encI x).toArray 29) := ⟨_, rfl⟩
  have HW1 := Lib.hid hw1
  have k1 := heap_alloc_new w (.cells (encI x).toArray 29)
  rw [← hw1] at hb k1
  have hcb : w1.cell? ⟨B, 0, none⟩ = some (.int .u64 (now : Int)) := by
    have h2 := (hb.block _ (Array.getElem?_eq_some_iff.1 h).1).trans h
    simp [World.cell?, h2]
  have HL25 := Lib.hid (load25 hcb)
  have HL29 := Lib.hid (load28 (row_range k1))
  have HL4 : Hid (∀ W, Below w1.heap.size w1 W → (loadVar 4 ⟨w.heap.size, 23, none⟩).run Tryz.prog W = .ok (.bool x.gone) W) := Lib.hid (fun W hW => by
    have hx := (fldB ((hW.block _ (Array.getElem?_eq_some_iff.1 k1).1).trans k1)).gone
    rw [Nat.zero_add] at hx
    go_simp)
  have HC := Lib.hid (alive_any x now w1)
  have HB := Lib.hid hb
  have HQ : Hid (liveI now x = (aliveI x now && !x.gone)) := Lib.hid rfl
  clear hcb hb k1 hw1 h
  cases ha : aliveI x now
  · rw [ha] at HC HQ
    clear ha
    go_enter Tryz.func41, Tryz.ntmps41
    go_upto_region 1 with fail
    rw [← HW1.out]
    go_wp2_with (first
      | ((with_reducible refine wpList_loadV (op := ⟨some 4, _, _, _, _, _⟩) rfl 29 (.tmp 2) rfl _ ?_ _ HL29.out ?_); rfl)
      | ((with_reducible refine wpList_loadV (op := ⟨some 5, _, _, _, _, _⟩) rfl 25 (.tmp 1) rfl _ ?_ _ HL25.out ?_); rfl)
      | (go_at_call 42; (with_reducible refine HC.out.mono ?_); rintro e w2 ⟨rfl, hb2⟩))
    go_ret
    exact ⟨by rw [HQ.out]; rfl, HB.out.trans (hb2.mono HB.out.size)⟩
  · rw [ha] at HC HQ
    clear ha
    generalize x.gone = gn at *
    go_enter Tryz.func41, Tryz.ntmps41
    go_upto_region 1 with fail
    rw [← HW1.out]
    go_wp2_with (first
      | ((with_reducible refine wpList_loadV (op := ⟨some 4, _, _, _, _, _⟩) rfl 29 (.tmp 2) rfl _ ?_ _ HL29.out ?_); rfl)
      | ((with_reducible refine wpList_loadV (op := ⟨some 5, _, _, _, _, _⟩) rfl 25 (.tmp 1) rfl _ ?_ _ HL25.out ?_); rfl)
      | (go_at_call 42; (with_reducible refine HC.out.mono ?_); rintro e w2 ⟨rfl, hb2⟩)
      | ((with_reducible refine wpList_loadG (o := ⟨some 9, _, _, _, _, _⟩) rfl 4 (.tmp 8) rfl _ ?_ _ (HL4.out _ hb2) ?_); rfl))
    go_ret
    exact ⟨by rw [HQ.out]; rfl, HB.out.trans (hb2.mono HB.out.size)⟩
theorem sweep1_any (x : Ins) (now : Nat) (B : Nat) (w : World) (h : w.heap[B]? = some (.cells #[.int .u64 (now : Int)] 25 (0, 0))) : Calls Tryz.prog 44 #[.agg (encI x).toArray, .pointer (some ⟨B, 0, none⟩)] w fun e w' => e = .returned (.bool (swepI now x)) ∧ Below w.heap.size w w' := by
  have hb : Below w.heap.size w (w.alloc (.cells (encI x).toArray 29)) := (Below.refl _ w).alloc (Nat.le_refl _) _
  obtain ⟨w1, hw1⟩ : ∃ y, y = w.alloc (.cells (encI x).toArray 29) := ⟨_, rfl⟩
  have HW1 := Lib.hid hw1
  have k1 := heap_alloc_new w (.cells (encI x).toArray 29)
  rw [← hw1] at hb k1
  have hcb : w1.cell? ⟨B, 0, none⟩ = some (.int .u64 (now : Int)) := by
    have h2 := (hb.block _ (Array.getElem?_eq_some_iff.1 h).1).trans h
    simp [World.cell?, h2]
  have HL25 := Lib.hid (load25 hcb)
  have HL29 := Lib.hid (load28 (row_range k1))
  have HC := Lib.hid (over_any x now w1)
  have HB := Lib.hid hb
  have HQ : Hid (swepI now x = !overI x now) := Lib.hid rfl
  clear hcb hb k1 hw1 h
  generalize overI x now = ov at *
  go_enter Tryz.func44, Tryz.ntmps44
  go_upto_region 1 with fail
  rw [← HW1.out]
  go_wp2_with (first
    | ((with_reducible refine wpList_loadV (op := ⟨some 4, _, _, _, _, _⟩) rfl 29 (.tmp 2) rfl _ ?_ _ HL29.out ?_); rfl)
    | ((with_reducible refine wpList_loadV (op := ⟨some 5, _, _, _, _, _⟩) rfl 25 (.tmp 1) rfl _ ?_ _ HL25.out ?_); rfl)
    | (go_at_call 45; (with_reducible refine HC.out.mono ?_); rintro e w2 ⟨rfl, hb2⟩))
  go_ret
  exact ⟨by rw [HQ.out]; rfl, HB.out.trans (hb2.mono HB.out.size)⟩
theorem chosen_stops_live (m : Nat) (hm : 2 ≤ m) (A : Option Addr) (c : Nat) (L : List Ins) (q : Ins → Bool) (caps : Array Value) (Bs Bf n₀ : Nat) (w : World) (hL : L.length ≤ 9223372036854775807) (hn₀ : n₀ ≤ w.heap.size) (hBs : Bs < n₀) (hBf : Bf < n₀)
    (hcs : w.cell? ⟨Bs, 0, none⟩ = some (.slice A L.length c)) (hcf : w.cell? ⟨Bf, 0, none⟩ = some (.func (.func 41) #[] caps)) (hA : IAt w n₀ A L)
    (hq : ∀ x W, Below n₀ w W → Calls Tryz.prog 41 (#[.agg (encI x).toArray] ++ caps) W fun e w' => e = .returned (.bool (q x)) ∧ Below W.heap.size W w') :
    SeqStopsK Fence.wide m Tryz.prog 73 #[.pointer (some ⟨Bs, 0, none⟩), .pointer (some ⟨Bf, 0, none⟩)] (fun x : Ins => #[.agg (encI x).toArray]) (Below n₀) (fun xs => xs = L.filter q) (fun pre => pre <+: L.filter q) (L.filter q).length w := fun l J Jx W hW hJ hJx hY h0 => by
  have HCS : Hid (∀ W', Below n₀ w W' → W'.cell? ⟨Bs, 0, none⟩ = some (.slice A L.length c)) := Lib.hid (fun W' h => (h.cell (p := ⟨Bs, 0, none⟩) hBs).trans hcs)
  have HCF : Hid (∀ W', Below n₀ w W' → W'.cell? ⟨Bf, 0, none⟩ = some (.func (.func 41) #[] caps)) := Lib.hid (fun W' h => (h.cell (p := ⟨Bf, 0, none⟩) hBf).trans hcf)
  have HQ := Lib.hid hq
  have hW0 : Below n₀ w W := hW.mono hn₀
  have HLD : Hid (∀ k, k < L.length → ∃ b off, A = some ⟨b, off, none⟩ ∧ ∀ W', Below n₀ w W' → (loadVar 29 ⟨b, off + k * 28, none⟩).run Tryz.prog W' = .ok (.agg (encI L[k]!).toArray) W') := Lib.hid (fun k hk => by
    rcases hA with rfl | ⟨g, off, rfl, hg, hr⟩
    · simp at hk
    · exact ⟨g, off, rfl, fun W' hW' => row_load hr hg hW' hk⟩)
  have HY := Lib.hid hY
  have HJ := Lib.hid hJ
  have HFA := Lib.hid (filter_at L q)
  have HFN := Lib.hid (filter_next L q)
  have hcell := HCS.out W hW0
  obtain ⟨n, hn⟩ : ∃ n, n = L.length := ⟨_, rfl⟩
  have HSZ := Lib.hid hn₀
  have R0 : Hid (∃ k : Nat, Value.int .i64 0 = .int .i64 (k : Int) ∧ k ≤ n ∧ J ((L.take k).filter q) W ∧ Below n₀ w W) := Lib.hid ⟨0, rfl, by omega, by simpa using h0, hW0⟩
  have HEND : Hid (∀ W', J ((L.take n).filter q) W' → J (L.filter q) W') := Lib.hid (fun W' h => by rw [hn, List.take_length] at h; exact h)
  rw [← hn] at HLD HFA HFN hcell hL
  clear hY hJ hJx h0 hq hcs hcf hA hW0 HCS hW hBs hBf hn₀
  refine callsIn_of_wp Tryz.func73 rfl trivial ?_ rfl
  simp only [Tryz.ntmps73, List.size_toArray, List.length_cons, List.length_nil, Nat.reduceAdd, Nat.reduceSub, Array.replicate_succ, Array.replicate_zero, List.push_toArray, List.append_toArray, List.nil_append, List.cons_append]
  gi_wp2
  gi_loopw [8] (fun i wr => ∃ k : Nat, i = .int .i64 (k : Int) ∧ k ≤ n ∧ J ((L.take k).filter q) wr ∧ Below n₀ w wr) (fun i _ => n - (RowKit.intOf i).toNat)
  case atStart => exact R0.out
  case round =>
    obtain ⟨k, rfl, hk, hJw, hbr⟩ := hrel
    clear R0
    by_cases hlt : k < n
    · have hlt' : (k : Int) < (n : Int) := by omega
      obtain ⟨b, off, rfl, hld⟩ := HLD.out k hlt
      have hld := Lib.hid (hld wr hbr)
      have hba0 : Below wr.heap.size wr (wr.alloc (.cells (encI L[k]!).toArray 29)) := (Below.refl _ wr).alloc (Nat.le_refl _) _
      have hnew := heap_alloc_new wr (.cells (encI L[k]!).toArray 29)
      have hbs := hbr.size
      have hsz := HSZ.out
      have hfa := HFA.out k hlt
      have hfn := HFN.out k hlt
      have hba : Below n₀ w (wr.alloc (.cells (encI L[k]!).toArray 29)) := hbr.trans (hba0.mono (by omega))
      have hcf := HCF.out _ hba
      have HW := Lib.hid (HQ.out L[k]! _ hba)
      have HLX : Hid (∀ W', Below (wr.alloc (.cells (encI L[k]!).toArray 29)).heap.size (wr.alloc (.cells (encI L[k]!).toArray 29)) W' → (loadVar 29 ⟨wr.heap.size, 0, none⟩).run Tryz.prog W' = .ok (.agg (encI L[k]!).toArray) W') := Lib.hid (fun W' h => load28 (row_range (by rw [h.block _ (Array.getElem?_eq_some_iff.1 hnew).1]; exact hnew)))
      have HJ1 : Hid (∀ w1, Below (wr.alloc (.cells (encI L[k]!).toArray 29)).heap.size (wr.alloc (.cells (encI L[k]!).toArray 29)) w1 → J ((L.take k).filter q) w1 ∧ Below n₀ w w1) := Lib.hid (fun w1 h => by
        have h1 := hba0.trans (h.mono hba0.size)
        exact ⟨HJ.out _ _ _ _ hJw (below_grown h1) (fun r e => by cases e), hbr.trans (h1.mono (by omega))⟩)
      clear HLD HFA HFN HEND HQ HCF HJ hJw hbr hba hnew
      generalize L[k]! = x at *
      generalize (L.take k).filter q = pre at *
      generalize (L.drop (k + 1)).filter q = post at *
      have eg83 : ∀ args w, (callFunc 41 args).run Tryz.prog w = .ok (.enter 41 args) w := enters_of Tryz.func41 (by kernel_rfl) rfl
      cases hqx : q x
      · rw [hqx] at hfn HW
        simp only [Bool.false_eq_true, if_false, List.append_nil] at hfn
        have HR : Hid (∀ w1, J pre w1 ∧ Below n₀ w w1 → ∃ k' : Nat, Value.int .i64 ((k : Int) + 1) = .int .i64 (k' : Int) ∧ k' ≤ n ∧ J ((L.take k').filter q) w1 ∧ Below n₀ w w1) := Lib.hid (fun w1 h => ⟨k + 1, by simp, by omega, by rw [hfn]; exact h.1, h.2⟩)
        clear hfn hfa HY hba0
        gi_wp2_with (first
          | ((with_reducible refine wpListIn_loadV (o := ⟨some 11, _, _, _, _, _⟩) rfl 29 (.tmp 10) rfl _ ?_ _ hld.out ?_); rfl)
          | (with_reducible refine wpListIn_alloc28 (o := ⟨some 5, _, _, _, _, _⟩) wr.heap.size rfl rfl 5 rfl rfl ?_)
          | ((with_reducible refine wpListIn_store28n (o := ⟨none, _, _, _, _, _⟩) rfl (.tmp 5) (.tmp 11) rfl wr.heap.size rfl zeroI x ?_ ?_ ?_); rfl; rfl)
          | ((with_reducible refine wpListIn_loadV (o := ⟨some 13, _, _, _, _, _⟩) rfl 29 (.tmp 5) rfl _ ?_ _ (HLX.out _ (Below.refl _ _)) ?_); rfl)
          | ((refine wpListIn_callV (o := ⟨some 14, _, _, _, _, _⟩) (xs := #[.tmp 13]) (ts := #[29]) (fun _ => trivial) (.inl rfl) (by omega) rfl 41 caps (.tmp 12) rfl rfl eg83 #[.agg (encI x).toArray] (by simp only [List.map_toArray, List.map_cons, List.map_nil]; rfl) ?_); (with_reducible refine HW.out.mono ?_); rintro e w1 ⟨rfl, hb1⟩; refine ⟨_, rfl, ?_⟩; have hj1 := Lib.hid (HJ1.out _ hb1)))
        refine ⟨(fun f hf => by cases hf), ?_⟩
        gi_wp2
        go_roundw
        case rel => exact HR.out _ hj1.out
        case measure => simp [RowKit.intOf]; omega
      · rw [hqx] at hfn hfa HW
        simp only [if_true] at hfn hfa
        have hlen : pre.length < (L.filter q).length := by rw [hfa]; simp
        have HP : Hid ((pre ++ [x]) <+: L.filter q) := Lib.hid ⟨post, hfa.symm⟩
        have HR : Hid (∀ w1, J (pre ++ [x]) w1 → Below n₀ w w1 → ∃ k' : Nat, Value.int .i64 ((k : Int) + 1) = .int .i64 (k' : Int) ∧ k' ≤ n ∧ J ((L.take k').filter q) w1 ∧ Below n₀ w w1) := Lib.hid (fun w1 h h2 => ⟨k + 1, by simp, by omega, by rw [hfn]; exact h, h2⟩)
        clear hfn hfa hba0
        gi_wp2_with (first
          | ((with_reducible refine wpListIn_loadV (o := ⟨some 11, _, _, _, _, _⟩) rfl 29 (.tmp 10) rfl _ ?_ _ hld.out ?_); rfl)
          | (with_reducible refine wpListIn_alloc28 (o := ⟨some 5, _, _, _, _, _⟩) wr.heap.size rfl rfl 5 rfl rfl ?_)
          | ((with_reducible refine wpListIn_store28n (o := ⟨none, _, _, _, _, _⟩) rfl (.tmp 5) (.tmp 11) rfl wr.heap.size rfl zeroI x ?_ ?_ ?_); rfl; rfl)
          | ((with_reducible refine wpListIn_loadV (o := ⟨some 13, _, _, _, _, _⟩) rfl 29 (.tmp 5) rfl _ ?_ _ (HLX.out _ (Below.refl _ _)) ?_); rfl)
          | ((refine wpListIn_callV (o := ⟨some 14, _, _, _, _, _⟩) (xs := #[.tmp 13]) (ts := #[29]) (fun _ => trivial) (.inl rfl) (by omega) rfl 41 caps (.tmp 12) rfl rfl eg83 #[.agg (encI x).toArray] (by simp only [List.map_toArray, List.map_cons, List.map_nil]; rfl) ?_); (with_reducible refine HW.out.mono ?_); rintro e w1 ⟨rfl, hb1⟩; refine ⟨_, rfl, ?_⟩; have hj1 := Lib.hid (HJ1.out _ hb1); have hlx := Lib.hid (HLX.out _ hb1); obtain ⟨fn, tmps, assign, body, hy, hR⟩ := HY.out pre x w1 hj1.out.1 hlen)
          | ((with_reducible refine wpListIn_loadV (o := ⟨some 17, _, _, _, _, _⟩) rfl 29 (.tmp 5) rfl _ ?_ _ hlx.out ?_); rfl))
        refine ⟨fun _ => by omega, hR.mono ?_⟩
        rintro e W3 (⟨rfl, hJ3, hk3⟩ | ⟨rfl, hJx3⟩)
        · gi_wp2
          go_roundw
          case rel => exact HR.out _ hJ3 (hj1.out.2.trans hk3)
          case measure => simp [RowKit.intOf]; omega
        · gi_wp2
          refine bodyPost_ret (results_none rfl _ _ _) rfl ?_
          exact ⟨⟨_, rfl⟩, .inr ⟨pre ++ [x], HP.out, hJx3⟩⟩
    · obtain rfl : k = n := by omega
      have hj := Lib.hid (HEND.out _ hJw)
      clear HLD HFA HFN HEND HY HJ HQ HCF hbr hJw
      gi_wp2
      go_end0
      exact ⟨⟨_, rfl⟩, .inl ⟨_, rfl, hj.out⟩⟩
theorem chosen_stops_sweep (m : Nat) (hm : 2 ≤ m) (A : Option Addr) (c : Nat) (L : List Ins) (q : Ins → Bool) (caps : Array Value) (Bs Bf n₀ : Nat) (w : World) (hL : L.length ≤ 9223372036854775807) (hn₀ : n₀ ≤ w.heap.size) (hBs : Bs < n₀) (hBf : Bf < n₀)
    (hcs : w.cell? ⟨Bs, 0, none⟩ = some (.slice A L.length c)) (hcf : w.cell? ⟨Bf, 0, none⟩ = some (.func (.func 44) #[] caps)) (hA : IAt w n₀ A L)
    (hq : ∀ x W, Below n₀ w W → Calls Tryz.prog 44 (#[.agg (encI x).toArray] ++ caps) W fun e w' => e = .returned (.bool (q x)) ∧ Below W.heap.size W w') :
    SeqStopsK Fence.wide m Tryz.prog 73 #[.pointer (some ⟨Bs, 0, none⟩), .pointer (some ⟨Bf, 0, none⟩)] (fun x : Ins => #[.agg (encI x).toArray]) (Below n₀) (fun xs => xs = L.filter q) (fun pre => pre <+: L.filter q) (L.filter q).length w := fun l J Jx W hW hJ hJx hY h0 => by
  have HCS : Hid (∀ W', Below n₀ w W' → W'.cell? ⟨Bs, 0, none⟩ = some (.slice A L.length c)) := Lib.hid (fun W' h => (h.cell (p := ⟨Bs, 0, none⟩) hBs).trans hcs)
  have HCF : Hid (∀ W', Below n₀ w W' → W'.cell? ⟨Bf, 0, none⟩ = some (.func (.func 44) #[] caps)) := Lib.hid (fun W' h => (h.cell (p := ⟨Bf, 0, none⟩) hBf).trans hcf)
  have HQ := Lib.hid hq
  have hW0 : Below n₀ w W := hW.mono hn₀
  have HLD : Hid (∀ k, k < L.length → ∃ b off, A = some ⟨b, off, none⟩ ∧ ∀ W', Below n₀ w W' → (loadVar 29 ⟨b, off + k * 28, none⟩).run Tryz.prog W' = .ok (.agg (encI L[k]!).toArray) W') := Lib.hid (fun k hk => by
    rcases hA with rfl | ⟨g, off, rfl, hg, hr⟩
    · simp at hk
    · exact ⟨g, off, rfl, fun W' hW' => row_load hr hg hW' hk⟩)
  have HY := Lib.hid hY
  have HJ := Lib.hid hJ
  have HFA := Lib.hid (filter_at L q)
  have HFN := Lib.hid (filter_next L q)
  have hcell := HCS.out W hW0
  obtain ⟨n, hn⟩ : ∃ n, n = L.length := ⟨_, rfl⟩
  have HSZ := Lib.hid hn₀
  have R0 : Hid (∃ k : Nat, Value.int .i64 0 = .int .i64 (k : Int) ∧ k ≤ n ∧ J ((L.take k).filter q) W ∧ Below n₀ w W) := Lib.hid ⟨0, rfl, by omega, by simpa using h0, hW0⟩
  have HEND : Hid (∀ W', J ((L.take n).filter q) W' → J (L.filter q) W') := Lib.hid (fun W' h => by rw [hn, List.take_length] at h; exact h)
  rw [← hn] at HLD HFA HFN hcell hL
  clear hY hJ hJx h0 hq hcs hcf hA hW0 HCS hW hBs hBf hn₀
  refine callsIn_of_wp Tryz.func73 rfl trivial ?_ rfl
  simp only [Tryz.ntmps73, List.size_toArray, List.length_cons, List.length_nil, Nat.reduceAdd, Nat.reduceSub, Array.replicate_succ, Array.replicate_zero, List.push_toArray, List.append_toArray, List.nil_append, List.cons_append]
  gi_wp2
  gi_loopw [8] (fun i wr => ∃ k : Nat, i = .int .i64 (k : Int) ∧ k ≤ n ∧ J ((L.take k).filter q) wr ∧ Below n₀ w wr) (fun i _ => n - (RowKit.intOf i).toNat)
  case atStart => exact R0.out
  case round =>
    obtain ⟨k, rfl, hk, hJw, hbr⟩ := hrel
    clear R0
    by_cases hlt : k < n
    · have hlt' : (k : Int) < (n : Int) := by omega
      obtain ⟨b, off, rfl, hld⟩ := HLD.out k hlt
      have hld := Lib.hid (hld wr hbr)
      have hba0 : Below wr.heap.size wr (wr.alloc (.cells (encI L[k]!).toArray 29)) := (Below.refl _ wr).alloc (Nat.le_refl _) _
      have hnew := heap_alloc_new wr (.cells (encI L[k]!).toArray 29)
      have hbs := hbr.size
      have hsz := HSZ.out
      have hfa := HFA.out k hlt
      have hfn := HFN.out k hlt
      have hba : Below n₀ w (wr.alloc (.cells (encI L[k]!).toArray 29)) := hbr.trans (hba0.mono (by omega))
      have hcf := HCF.out _ hba
      have HW := Lib.hid (HQ.out L[k]! _ hba)
      have HLX : Hid (∀ W', Below (wr.alloc (.cells (encI L[k]!).toArray 29)).heap.size (wr.alloc (.cells (encI L[k]!).toArray 29)) W' → (loadVar 29 ⟨wr.heap.size, 0, none⟩).run Tryz.prog W' = .ok (.agg (encI L[k]!).toArray) W') := Lib.hid (fun W' h => load28 (row_range (by rw [h.block _ (Array.getElem?_eq_some_iff.1 hnew).1]; exact hnew)))
      have HJ1 : Hid (∀ w1, Below (wr.alloc (.cells (encI L[k]!).toArray 29)).heap.size (wr.alloc (.cells (encI L[k]!).toArray 29)) w1 → J ((L.take k).filter q) w1 ∧ Below n₀ w w1) := Lib.hid (fun w1 h => by
        have h1 := hba0.trans (h.mono hba0.size)
        exact ⟨HJ.out _ _ _ _ hJw (below_grown h1) (fun r e => by cases e), hbr.trans (h1.mono (by omega))⟩)
      clear HLD HFA HFN HEND HQ HCF HJ hJw hbr hba hnew
      generalize L[k]! = x at *
      generalize (L.take k).filter q = pre at *
      generalize (L.drop (k + 1)).filter q = post at *
      have eg83 : ∀ args w, (callFunc 44 args).run Tryz.prog w = .ok (.enter 44 args) w := enters_of Tryz.func44 (by kernel_rfl) rfl
      cases hqx : q x
      · rw [hqx] at hfn HW
        simp only [Bool.false_eq_true, if_false, List.append_nil] at hfn
        have HR : Hid (∀ w1, J pre w1 ∧ Below n₀ w w1 → ∃ k' : Nat, Value.int .i64 ((k : Int) + 1) = .int .i64 (k' : Int) ∧ k' ≤ n ∧ J ((L.take k').filter q) w1 ∧ Below n₀ w w1) := Lib.hid (fun w1 h => ⟨k + 1, by simp, by omega, by rw [hfn]; exact h.1, h.2⟩)
        clear hfn hfa HY hba0
        gi_wp2_with (first
          | ((with_reducible refine wpListIn_loadV (o := ⟨some 11, _, _, _, _, _⟩) rfl 29 (.tmp 10) rfl _ ?_ _ hld.out ?_); rfl)
          | (with_reducible refine wpListIn_alloc28 (o := ⟨some 5, _, _, _, _, _⟩) wr.heap.size rfl rfl 5 rfl rfl ?_)
          | ((with_reducible refine wpListIn_store28n (o := ⟨none, _, _, _, _, _⟩) rfl (.tmp 5) (.tmp 11) rfl wr.heap.size rfl zeroI x ?_ ?_ ?_); rfl; rfl)
          | ((with_reducible refine wpListIn_loadV (o := ⟨some 13, _, _, _, _, _⟩) rfl 29 (.tmp 5) rfl _ ?_ _ (HLX.out _ (Below.refl _ _)) ?_); rfl)
          | ((refine wpListIn_callV (o := ⟨some 14, _, _, _, _, _⟩) (xs := #[.tmp 13]) (ts := #[29]) (fun _ => trivial) (.inl rfl) (by omega) rfl 44 caps (.tmp 12) rfl rfl eg83 #[.agg (encI x).toArray] (by simp only [List.map_toArray, List.map_cons, List.map_nil]; rfl) ?_); (with_reducible refine HW.out.mono ?_); rintro e w1 ⟨rfl, hb1⟩; refine ⟨_, rfl, ?_⟩; have hj1 := Lib.hid (HJ1.out _ hb1)))
        refine ⟨(fun f hf => by cases hf), ?_⟩
        gi_wp2
        go_roundw
        case rel => exact HR.out _ hj1.out
        case measure => simp [RowKit.intOf]; omega
      · rw [hqx] at hfn hfa HW
        simp only [if_true] at hfn hfa
        have hlen : pre.length < (L.filter q).length := by rw [hfa]; simp
        have HP : Hid ((pre ++ [x]) <+: L.filter q) := Lib.hid ⟨post, hfa.symm⟩
        have HR : Hid (∀ w1, J (pre ++ [x]) w1 → Below n₀ w w1 → ∃ k' : Nat, Value.int .i64 ((k : Int) + 1) = .int .i64 (k' : Int) ∧ k' ≤ n ∧ J ((L.take k').filter q) w1 ∧ Below n₀ w w1) := Lib.hid (fun w1 h h2 => ⟨k + 1, by simp, by omega, by rw [hfn]; exact h, h2⟩)
        clear hfn hfa hba0
        gi_wp2_with (first
          | ((with_reducible refine wpListIn_loadV (o := ⟨some 11, _, _, _, _, _⟩) rfl 29 (.tmp 10) rfl _ ?_ _ hld.out ?_); rfl)
          | (with_reducible refine wpListIn_alloc28 (o := ⟨some 5, _, _, _, _, _⟩) wr.heap.size rfl rfl 5 rfl rfl ?_)
          | ((with_reducible refine wpListIn_store28n (o := ⟨none, _, _, _, _, _⟩) rfl (.tmp 5) (.tmp 11) rfl wr.heap.size rfl zeroI x ?_ ?_ ?_); rfl; rfl)
          | ((with_reducible refine wpListIn_loadV (o := ⟨some 13, _, _, _, _, _⟩) rfl 29 (.tmp 5) rfl _ ?_ _ (HLX.out _ (Below.refl _ _)) ?_); rfl)
          | ((refine wpListIn_callV (o := ⟨some 14, _, _, _, _, _⟩) (xs := #[.tmp 13]) (ts := #[29]) (fun _ => trivial) (.inl rfl) (by omega) rfl 44 caps (.tmp 12) rfl rfl eg83 #[.agg (encI x).toArray] (by simp only [List.map_toArray, List.map_cons, List.map_nil]; rfl) ?_); (with_reducible refine HW.out.mono ?_); rintro e w1 ⟨rfl, hb1⟩; refine ⟨_, rfl, ?_⟩; have hj1 := Lib.hid (HJ1.out _ hb1); have hlx := Lib.hid (HLX.out _ hb1); obtain ⟨fn, tmps, assign, body, hy, hR⟩ := HY.out pre x w1 hj1.out.1 hlen)
          | ((with_reducible refine wpListIn_loadV (o := ⟨some 17, _, _, _, _, _⟩) rfl 29 (.tmp 5) rfl _ ?_ _ hlx.out ?_); rfl))
        refine ⟨fun _ => by omega, hR.mono ?_⟩
        rintro e W3 (⟨rfl, hJ3, hk3⟩ | ⟨rfl, hJx3⟩)
        · gi_wp2
          go_roundw
          case rel => exact HR.out _ hJ3 (hj1.out.2.trans hk3)
          case measure => simp [RowKit.intOf]; omega
        · gi_wp2
          refine bodyPost_ret (results_none rfl _ _ _) rfl ?_
          exact ⟨⟨_, rfl⟩, .inr ⟨pre ++ [x], HP.out, hJx3⟩⟩
    · obtain rfl : k = n := by omega
      have hj := Lib.hid (HEND.out _ hJw)
      clear HLD HFA HFN HEND HY HJ HQ HCF hbr hJw
      gi_wp2
      go_end0
      exact ⟨⟨_, rfl⟩, .inl ⟨_, rfl, hj.out⟩⟩
end Go.Proofs.YtkceipkgebgigaaGreat
end
section
namespace Go.Proofs.YtkceipkgebgigaaGreat
open Go.Shelf Go.RowKit Go.Lib Go.Great
set_option maxRecDepth 100000
set_option maxHeartbeats 400000
section
variable {F : Fence} {n : Nat} {P : Program}
theorem wpIn_each {α : Type} {g : Operand} {ps : Array Tmp} {assign body : Code} {Q : Exit → Act → World → Prop} {a : Act} {w : World}
    (hro : F.round = none) (h1 : 1 ≤ n) {gf : Nat} {lb : Array Value} (hg : a.eval g = .func (.func gf) #[] lb) (hFg : F.fn gf) (eg : ∀ args w, (callFunc gf args).run P w = .ok (.enter gf args) w)
    {encs : α → Array Value} {n₀ : Nat} (hn₀ : n₀ ≤ w.heap.size) {S Sp : List α → Prop} {N : Nat} {w0 : World} (hseq : SeqStopsK F (n - 1) P gf lb encs (Below n₀) S Sp N w0) (hb0 : Below w0.heap.size w0 w) (hps : ∀ x, (encs x).size = ps.size)
    (T : α → Array Value) (hT : ∀ x, (ps.zip (encs x)).foldl (fun t (p, v) => t.setIfInBounds p v) a.tmps = T x)
    (I : List α → World → Prop) (M : List α → α → Act → World → Prop)
    (hI : OwnFrom w.heap.size I) (hM : OwnFrom w.heap.size (fun (p : List α × α × Act) W => M p.1 p.2.1 p.2.2 W)) (h0 : I [] w)
    (hassign : ∀ (l : Nat) (pre : List α) (x : α) (W : World) (K : Act → World → Prop), I pre W → (∀ a1 W2, M pre x a1 W2 → KeepsOthers W W2 → Below n₀ W W2 → K a1 W2) →
      assign.wpIn (F.inRound l) (n - 1 - 1) P (Exit.then K (fun _ _ _ => False)) { tmps := T x, defers := [] } W)
    (hbody : ∀ (l : Nat) (pre : List α) (x : α) (a1 : Act) (W : World), pre.length < N → M pre x a1 W → body.wpIn (F.inRound l) (n - 1 - 1) P (fun e _ W' => e = .normal ∧ KeepsOthers W W' ∧ Below n₀ W W' ∧ I (pre ++ [x]) W') a1 W)
    (hdone : ∀ (D : Nat) (xs : List α) (W : World), w.heap.size ≤ D → S xs → I xs W → W.heap[D]? = some (.deferred (some [])) → Q .normal { a with defers := { target := .collected D, args := #[] } :: a.defers } W) :
    (Code.rangeFunc g ps assign body).wpIn F n P Q a w := by
  refine wpIn_rangeFunc (fun fn hfn => ?_)
  rw [hro]
  obtain ⟨R, hR⟩ : ∃ R : LoopState → Option Code → Loop, R = fun s j => { state := s, pending := j, fn, tmps := a.tmps, params := ps, assign, body, defers := w.heap.size } := ⟨_, rfl⟩
  have hen := run_enterLoop_outer (P := P) (w := w) fn a.tmps ps assign body
  rw [show ({ state := .ready, pending := none, fn, tmps := a.tmps, params := ps, assign, body, defers := w.heap.size } : Loop) = R .ready none by rw [hR]] at hen
  have sz1 : (w.alloc (.deferred (some []))).heap.size = w.heap.size + 1 := World.size_alloc _ _
  have hL : ((w.alloc (.deferred (some []))).alloc (.loop (R .ready none))).heap[w.heap.size + 1]? = some (.loop (R .ready none)) := by
    have := World.alloc_heap_new (w.alloc (.deferred (some []))) (.loop (R .ready none))
    rwa [sz1] at this
  have hD : ((w.alloc (.deferred (some []))).alloc (.loop (R .ready none))).heap[w.heap.size]? = some (.deferred (some [])) :=
    (Below.heap_alloc _ _ _ (by rw [sz1]; omega)).trans (World.alloc_heap_new w _)
  have hI1 : I [] ((w.alloc (.deferred (some []))).alloc (.loop (R .ready none))) := hI.alloc _ (hI.alloc _ h0)
  have hb1 : Below w0.heap.size w0 ((w.alloc (.deferred (some []))).alloc (.loop (R .ready none))) := (hb0.alloc hb0.size _).alloc (by rw [sz1]; have := hb0.size; omega) _
  have sz2 : w.heap.size ≤ ((w.alloc (.deferred (some []))).alloc (.loop (R .ready none))).heap.size := by simp; omega
  obtain ⟨W1, hW1⟩ : ∃ W1, W1 = (w.alloc (.deferred (some []))).alloc (.loop (R .ready none)) := ⟨_, rfl⟩
  rw [← hW1] at hen hL hD hI1 hb1 sz2
  clear hW1
  refine ⟨w.heap.size + 1, [{ target := .collected w.heap.size, args := #[] }], W1, { target := .fn (.func gf) lb, args := #[.func (.yield (w.heap.size + 1)) #[] #[]] }, W1, gf, #[.func (.yield (w.heap.size + 1)) #[] #[]] ++ lb, W1, hen, ?_, ?_, ?_, fun _ => h1, ?_⟩
  · simp only [resolve, hg]
    simp [go_sem]
  · intro f' hf'
    simp [Target.leads] at hf'
    subst hf'
    exact hFg
  · simp [invoke, go_sem, eg]
  have noc : ∀ {A : World} {row : Option Nat}, (∀ r, row = some r → W1.heap.size ≤ r ∧ ∃ o : Obj, A.heap[r]? = some o ∧ o.isWalk = true) → ∀ r, row = some r → w.heap.size ≤ r ∧ ∃ o : Obj, A.heap[r]? = some o ∧ o.isCells = false := fun hr r e => by
    obtain ⟨hB, o, ho, hw⟩ := hr r e
    exact ⟨by omega, o, ho, Obj.not_cells_of_walk hw⟩
  have turn : ∀ (W : World) (o : Obj), w.heap.size + 1 < W.heap.size → Below n₀ W (W.putObj (w.heap.size + 1) o) := fun W o hlt => (Below.refl n₀ W).grown (grownBy_putObj' W _ o) (by omega) (fun k e => by cases e; omega)
  refine (hseq (w.heap.size + 1) (fun pre W => I pre W ∧ W.heap[w.heap.size + 1]? = some (.loop (R .ready none)) ∧ W.heap[w.heap.size]? = some (.deferred (some []))) (fun _ _ => False) W1 hb1 ?_ (fun _ _ _ _ h _ _ => h) ?_ ⟨hI1, hL, hD⟩).mono ?_
  · rintro s A B row ⟨q1, q2, q3⟩ hgr hr
    exact ⟨hI s A B row q1 hgr (noc hr), (grownBy_keeps hgr (fun r e => (hr r e).2) q2 rfl).trans q2, (grownBy_keeps hgr (fun r e => (hr r e).2) q3 rfl).trans q3⟩
  · rintro pre x W ⟨hi, hl, hd⟩ hlen
    have hy := run_yield (P := P) (args := encs x) hl (by rw [hR]; exact hps x)
    rw [hR] at hy
    refine ⟨fn, _, assign, body, hy, roundIn_of_wpIn hfn ?_⟩
    simp only [hT]
    refine hassign _ pre x W _ hi (fun a1 W2 hm hk2 hb2 => ?_)
    have hl2 := hk2.same _ _ hl rfl
    have hd2 := hk2.same _ _ hd rfl
    refine ⟨_, run_beginRound hl2 (by rw [hR]), ?_⟩
    have hlt := (Array.getElem?_eq_some_iff.1 hl2).1
    have hl3 : (W2.putObj (w.heap.size + 1) (.loop { R .ready none with state := .busy })).heap[w.heap.size + 1]? = some (.loop { R .ready none with state := .busy }) := World.putObj_heap_same hlt
    have hd3 : (W2.putObj (w.heap.size + 1) (.loop { R .ready none with state := .busy })).heap[w.heap.size]? = some (.deferred (some [])) := (World.putObj_heap_other (by omega)).trans hd2
    have hb3 := hb2.trans (turn W2 (.loop { R .ready none with state := .busy }) hlt)
    refine wpIn_mono (hbody _ pre x a1 _ hlen (hM.putObj (s := (pre, x, a1)) _ hm (by omega) hl2 rfl)) ?_
    rintro e a3 W3 ⟨rfl, hk3, hbk, hi3⟩
    have hl4 := hk3.same _ _ hl3 rfl
    have hd4 := hk3.same _ _ hd3 rfl
    have hlt4 := (Array.getElem?_eq_some_iff.1 hl4).1
    refine ⟨_, _, run_endRound none hl4, .inl ⟨rfl, ⟨hI.putObj _ hi3 (by omega) hl4 rfl, ?_, (World.putObj_heap_other (by omega)).trans hd4⟩, (hb3.trans hbk).trans (turn W3 _ hlt4)⟩⟩
    rw [World.putObj_heap_same hlt4, hR]
    rfl
  · rintro e W2 ⟨⟨v, rfl⟩, ⟨xs, hS, hi, hl, hd⟩ | ⟨pre, hSp, hf⟩⟩
    · refine ⟨_, _, run_endLoop hl (by rw [hR]; simp), ?_⟩
      rw [hR]
      exact hdone _ xs _ (Nat.le_refl _) hS (hI.putObj _ hi (by omega) hl rfl) ((World.putObj_heap_other (by omega)).trans hd)
    · exact hf.elim
end
theorem wpListIn_build_oneI {F : Fence} {n : Nat} {t e : TypeId} (hT : InsT t e) (x : Ins) {w : World} {ops : Array Oper} {rest : List Oper} {o : Oper} {a : Act} {Q : Exit → Act → World → Prop} (hw : Region.wanted o (yielded ops a.tmps) = true) (y : Operand) (ho : o.op = .buildSlice t 1 #[(0, y)]) (hy : a.eval y = .agg (encI x).toArray)
    (h : wpListIn F n Tryz.prog ops Q rest (a.put o.dst (.slice (some ⟨w.heap.size, 0, none⟩) 1 1)) (w.alloc (.cells (encI x).toArray e))) : wpListIn F n Tryz.prog ops Q (o :: rest) a w :=
  BigFrame.wpListIn_want hw fun K hK => by
    refine ⟨fun f hf => by simp [Oper.about, ho] at hf, ?_⟩
    rw [Oper.semAt_plain F _ _ (by rw [ho]; intro c hc'; cases hc')]
    unfold execOp
    simp only [ho, List.map_toArray, List.map_cons, List.map_nil, hy, Sem.run_bind, run_build_oneI hT, Result.andThen_ok, Sem.run_pure]
    exact hK _ _ h
theorem wpListIn_append_ins {F : Fence} {n : Nat} {t e : TypeId} (hT : InsT t e) {w : World} {ops : Array Oper} {rest : List Oper} {o : Oper} {a : Act} {Q : Exit → Act → World → Prop} (hw : Region.wanted o (yielded ops a.tmps) = true) (s x : Operand)
    (ho : o.op = .call { callee := .builtin .append, args := #[s, x], argTypes := #[t, t] })
    (base : Nat) (v : Value) (L M : List Ins) (hs : a.eval s = v) (hown : w.ownsRow base e 28 v L.length (flatE encI L))
    (y : Value) (hx : a.eval x = y) (hr : Src Tryz.prog 28 t y M.length (flatE encI M) w) (h63 : L.length + M.length ≤ 1000000) (hbase : base ≤ w.heap.size)
    (h : ∀ v' w', w'.ownsRow base e 28 v' (L ++ M).length (flatE encI (L ++ M)) → w.grownBy w' v.ownBlock → wpListIn F n Tryz.prog ops Q rest (a.put o.dst v') w') : wpListIn F n Tryz.prog ops Q (o :: rest) a w :=
  BigFrame.wpListIn_want hw fun K hK => by
    obtain ⟨i0, hi, hz0, hz1, hz2⟩ := hT.info
    obtain ⟨v', w', hrun, h2, h3, _⟩ := run_append_srcK w base t t o.type e i0 _ 28 72 hT.und hi hz0 hz1 hz2 (by simp [Value.cells, encI_length]) v L.length (flatE encI L) hown y M.length (flatE encI M) hr (by simp only [maxLen]; omega) (by omega) hbase
    refine ⟨fun f hf => by simp [Oper.about, ho, resolve, Target.leads, Sem.run_pure] at hf, ?_⟩
    rw [Oper.semAt_plain F _ _ (by rw [ho]; intro c hc'; cases hc')]
    unfold execOp
    simp only [ho, resolve, invoke, builtin, Sem.run_bind, Sem.run_pure, Result.andThen_ok, List.map_toArray, List.map_cons, List.map_nil, hs, hx, hrun]
    have e1 : flatE encI L ++ flatE encI M = flatE encI (L ++ M) := by unfold flatE; rw [List.flatMap_append]
    rw [e1, ← List.length_append] at h2
    exact hK _ _ (h v' w' h2 h3)
end Go.Proofs.YtkceipkgebgigaaGreat
end
