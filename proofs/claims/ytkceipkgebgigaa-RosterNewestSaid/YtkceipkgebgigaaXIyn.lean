/- A reader that no call made: next and Read of package inst. No condition. roster.Read of no reader. No condition. What a read that fails leaves of a roster: plain. No condition. Good of the reference: rosters. Conditions: at most 10,000 instances, targets of at most 100,000 bytes. -/
import Derived.Test.YtkceipkgebgigaaXIiq
import Derived.Test.YtkceipkgebgigaaXIix
import Derived.Test.YtkceipkgebgigaaXIiw
import Derived.Test.YtkceipkgebgigaaXObc
import Derived.Test.YtkceipkgebgigaaXIij
section
namespace Go.Proofs.Ytkceipkgebgigaa
open Go.Shelf Go.RowKit Go.Lib Go.Great
set_option maxRecDepth 1000000
set_option maxHeartbeats 2000000
theorem isopen_nil (w : World) : Calls Try.prog 72 #[.pointer none] w fun e w' => e = .returned (.bool false) ∧ w' = w := by
  go_enter Try.func72, Try.ntmps72
  go_wp2
  go_ret
  exact ⟨rfl, rfl⟩
theorem bad_nil (w : World) : Calls Try.prog 33 #[.pointer none] w fun e w' => e = .returned (.bool true) ∧ w' = w := by
  have H := Lib.hid (isopen_nil w)
  go_enter Try.func33, Try.ntmps33
  go_wp2_with (go_at_call 72; (with_reducible refine H.out.mono ?_); rintro e w1 ⟨rfl, rfl⟩)
  go_ret
  exact ⟨rfl, rfl⟩
theorem num_nil (n : Int) (w : World) : Calls Try.prog 74 #[.pointer none, .int .i64 n] w fun e w' => e = .returned (.int .u64 0) ∧ w' = w := by
  have H := Lib.hid (bad_nil w)
  go_enter Try.func74, Try.ntmps74
  go_wp2_with (go_at_call 33; (with_reducible refine H.out.mono ?_); rintro e w1 ⟨rfl, rfl⟩)
  go_ret
  exact ⟨rfl, rfl⟩
theorem take_nil (n : Int) (w : World) : Calls Try.prog 96 #[.pointer none, .int .i64 n] w fun e w' => e = .returned (.slice none 0 0) ∧ w' = w := by
  have H := Lib.hid (bad_nil w)
  go_enter Try.func96, Try.ntmps96
  go_wp2_with (go_at_call 33; (with_reducible refine H.out.mono ?_); rintro e w1 ⟨rfl, rfl⟩)
  go_ret
  exact ⟨rfl, rfl⟩
theorem txt_nil (n : Int) (w : World) : Calls Try.prog 97 #[.pointer none, .int .i64 n] w fun e w' => e = .returned (.string ⟨#[]⟩) ∧ w' = w := by
  have H := Lib.hid (bad_nil w)
  go_enter Try.func97, Try.ntmps97
  go_wp2_with (go_at_call 33; (with_reducible refine H.out.mono ?_); rintro e w1 ⟨rfl, rfl⟩)
  go_ret
  exact ⟨rfl, rfl⟩
/-- While next runs at no reader. -/
structure NZI (w : World) (r q : Nat) (W : World) : Prop where
  hr : W.heap[r]? = some (.cells (encI zeroI).toArray 28 (0, 0))
  hq : W.heap[q]? = some (.cells (encI zeroI).toArray 28 (0, 0))
  be : Below w.heap.size w W
  rw : w.heap.size ≤ r
  qw : w.heap.size ≤ q
  rq : r ≠ q
section
variable {w W W' : World} {r q : Nat}
theorem NZI.set (n : NZI w r q W) {j : Nat} {v : Value} (hq : (W.setCell ⟨q, j, none⟩ v).heap[q]? = some (.cells (encI zeroI).toArray 28 (0, 0))) : NZI w r q (W.setCell ⟨q, j, none⟩ v) := by
  have hg := grownBy_setCell (World.grownBy.refl W (some q)) j v
  exact ⟨(hg.block r (Array.getElem?_eq_some_iff.1 n.hr).1 (by intro e; injection e with e; have := n.rq; omega)).trans n.hr, hq, n.be.setCell (p := ⟨q, j, none⟩) n.qw _, n.rw, n.qw, n.rq⟩
theorem NZI.cell (n : NZI w r q W) {j : Nat} {v : Value} (hv : (encI zeroI)[j]? = some v) : W.cell? ⟨q, j, none⟩ = some v ∧ W.frozen? ⟨q, j, none⟩ = false := by
  refine ⟨?_, frozen_of_row _ _ _ _ _ n.hq⟩
  rw [cell_of_row _ _ j _ 28 (0, 0) n.hq, List.getElem?_toArray]
  exact hv
theorem NZI.num (n : NZI w r q W) (k : Int) {j : Nat} {v : Value} (hv : (encI zeroI)[j]? = some v) : Calls Try.prog 74 #[.pointer none, .int .i64 k] W fun e W' => e = .returned (.int .u64 0) ∧ NZI w r q W' ∧ W'.cell? ⟨q, j, none⟩ = some v ∧ W'.frozen? ⟨q, j, none⟩ = false :=
  (num_nil k W).mono (by rintro e W' ⟨rfl, rfl⟩; exact ⟨rfl, n, n.cell hv⟩)
theorem NZI.txt (n : NZI w r q W) (k : Int) {j : Nat} {v : Value} (hv : (encI zeroI)[j]? = some v) : Calls Try.prog 97 #[.pointer none, .int .i64 k] W fun e W' => e = .returned (.string ⟨#[]⟩) ∧ NZI w r q W' ∧ W'.cell? ⟨q, j, none⟩ = some v ∧ W'.frozen? ⟨q, j, none⟩ = false :=
  (txt_nil k W).mono (by rintro e W' ⟨rfl, rfl⟩; exact ⟨rfl, n, n.cell hv⟩)
end
theorem copy_none : splice (encI zeroI) 0 ([] : List Value) = encI zeroI := rfl
theorem inext_nil (w : World) : Calls Try.prog 67 #[.pointer none] w fun e w' => e = .returned (.agg (encI zeroI).toArray) ∧ Below w.heap.size w w' := by
  obtain ⟨hr0, hq0, hb0⟩ := heap2 w (.cells (encI zeroI).toArray 28) (.cells (encI zeroI).toArray 28)
  have hs1 : (w.alloc (.cells (encI zeroI).toArray 28)).heap.size = w.heap.size + 1 := by simp
  obtain ⟨W0, hW0⟩ : ∃ W0, W0 = (w.alloc (.cells (encI zeroI).toArray 28)).alloc (.cells (encI zeroI).toArray 28) := ⟨_, rfl⟩
  rw [← hW0] at hr0 hq0 hb0
  have n0 : NZI w w.heap.size (w.heap.size + 1) W0.drew := ⟨hr0, hq0, hb0.drew, Nat.le_refl _, by omega, by omega⟩
  obtain ⟨q, hq⟩ : ∃ q, q = w.heap.size + 1 := ⟨_, rfl⟩
  rw [← hq] at n0
  have N0 := Lib.hid n0
  have H1 : Hid (∀ W, NZI w w.heap.size q W → Calls Try.prog 96 #[.pointer none, .int .i64 20] W fun e W' => e = .returned (.slice none 0 0) ∧ NZI w w.heap.size q W') := Lib.hid (fun W n => (take_nil 20 W).mono (by rintro e W' ⟨rfl, rfl⟩; exact ⟨rfl, n⟩))
  have H3 : Hid (∀ w2 w3, NZI w w.heap.size q w2 → w3.heap[q]? = some (.cells (splice (encI zeroI) 0 ([] : List Value)).toArray 28 (0, 0)) → w2.grownBy w3 (some q) → NZI w w.heap.size q w3) := Lib.hid (fun w2 w3 n hq hg => by
    exact ⟨(hg.block _ (Array.getElem?_eq_some_iff.1 n.hr).1 (by intro e; injection e with e; have := n.rq; omega)).trans n.hr, by rw [copy_none] at hq; exact hq, below_ownB n.be n.be.size hg (fun k hk => by injection hk with hk; have := n.qw; omega), n.rw, n.qw, n.rq⟩)
  have hp : (List.replicate 20 (0 : UInt8)).length = 20 := by simp
  have N1 : Hid (∀ W, NZI w w.heap.size q W → Calls Try.prog 74 #[.pointer none, .int .i64 8] W fun e W' => e = .returned (.int .u64 0) ∧ NZI w w.heap.size q W' ∧ W'.cell? ⟨q, 20, none⟩ = some (.int .u64 0) ∧ W'.frozen? ⟨q, 20, none⟩ = false) := Lib.hid (fun W n => n.num 8 rfl)
  have P1 : Hid (∀ W, NZI w w.heap.size q W → NZI w w.heap.size q (W.setCell ⟨q, 20, none⟩ (.int .u64 0))) := Lib.hid (fun W n => n.set (putS hp (s := 0) n.hq 0))
  have N2 : Hid (∀ W, NZI w w.heap.size q W → Calls Try.prog 74 #[.pointer none, .int .i64 8] W fun e W' => e = .returned (.int .u64 0) ∧ NZI w w.heap.size q W' ∧ W'.cell? ⟨q, 21, none⟩ = some (.int .u64 0) ∧ W'.frozen? ⟨q, 21, none⟩ = false) := Lib.hid (fun W n => n.num 8 rfl)
  have P2 : Hid (∀ W, NZI w w.heap.size q W → NZI w w.heap.size q (W.setCell ⟨q, 21, none⟩ (.int .u64 0))) := Lib.hid (fun W n => n.set (putBo hp (b := 0) n.hq 0))
  have N3 : Hid (∀ W, NZI w w.heap.size q W → Calls Try.prog 74 #[.pointer none, .int .i64 4] W fun e W' => e = .returned (.int .u64 0) ∧ NZI w w.heap.size q W' ∧ W'.cell? ⟨q, 22, none⟩ = some (.int .u32 0) ∧ W'.frozen? ⟨q, 22, none⟩ = false) := Lib.hid (fun W n => n.num 4 rfl)
  have P3 : Hid (∀ W, NZI w w.heap.size q W → NZI w w.heap.size q (W.setCell ⟨q, 22, none⟩ (.int .u32 0))) := Lib.hid (fun W n => n.set (putLi hp (l := 0) n.hq 0))
  have N5 : Hid (∀ W, NZI w w.heap.size q W → Calls Try.prog 74 #[.pointer none, .int .i64 2] W fun e W' => e = .returned (.int .u64 0) ∧ NZI w w.heap.size q W' ∧ W'.cell? ⟨q, 24, none⟩ = some (.int .u16 0) ∧ W'.frozen? ⟨q, 24, none⟩ = false) := Lib.hid (fun W n => n.num 2 rfl)
  have P5 : Hid (∀ W, NZI w w.heap.size q W → NZI w w.heap.size q (W.setCell ⟨q, 24, none⟩ (.int .u16 0))) := Lib.hid (fun W n => n.set (putPr hp (pr := 0) n.hq 0))
  have N6 : Hid (∀ W, NZI w w.heap.size q W → Calls Try.prog 74 #[.pointer none, .int .i64 2] W fun e W' => e = .returned (.int .u64 0) ∧ NZI w w.heap.size q W' ∧ W'.cell? ⟨q, 25, none⟩ = some (.int .u16 0) ∧ W'.frozen? ⟨q, 25, none⟩ = false) := Lib.hid (fun W n => n.num 2 rfl)
  have P6 : Hid (∀ W, NZI w w.heap.size q W → NZI w w.heap.size q (W.setCell ⟨q, 25, none⟩ (.int .u16 0))) := Lib.hid (fun W n => n.set (putWe hp (we := 0) n.hq 0))
  have N7 : Hid (∀ W, NZI w w.heap.size q W → Calls Try.prog 74 #[.pointer none, .int .i64 2] W fun e W' => e = .returned (.int .u64 0) ∧ NZI w w.heap.size q W' ∧ W'.cell? ⟨q, 26, none⟩ = some (.int .u16 0) ∧ W'.frozen? ⟨q, 26, none⟩ = false) := Lib.hid (fun W n => n.num 2 rfl)
  have P7 : Hid (∀ W, NZI w w.heap.size q W → NZI w w.heap.size q (W.setCell ⟨q, 26, none⟩ (.int .u16 0))) := Lib.hid (fun W n => n.set (putPo hp (po := 0) n.hq 0))
  have N4 : Hid (∀ W, NZI w w.heap.size q W → Calls Try.prog 74 #[.pointer none, .int .i64 1] W fun e W' => e = .returned (.int .u64 0) ∧ NZI w w.heap.size q W') := Lib.hid (fun W n => (num_nil 1 W).mono (by rintro e W' ⟨rfl, rfl⟩; exact ⟨rfl, n⟩))
  have N8 : Hid (∀ W, NZI w w.heap.size q W → Calls Try.prog 97 #[.pointer none, .int .i64 1024] W fun e W' => e = .returned (.string ⟨#[]⟩) ∧ NZI w w.heap.size q W' ∧ W'.cell? ⟨q, 27, none⟩ = some (.string ⟨#[]⟩) ∧ W'.frozen? ⟨q, 27, none⟩ = false) := Lib.hid (fun W n => n.txt 1024 rfl)
  have P8 : Hid (∀ W, NZI w w.heap.size q W → NZI w w.heap.size q (W.setCell ⟨q, 27, none⟩ (.string ⟨#[]⟩))) := Lib.hid (fun W n => n.set (putTg hp (t := []) n.hq []))
  have FT := Lib.hid flag_t
  have FF := Lib.hid flag_f
  have HW := Lib.hid hW0
  have HQ := Lib.hid hq
  have HS1 := Lib.hid hs1
  have HONE : Hid (∀ v ∈ ([] : List Value), v.oneCell' = true) := Lib.hid (by simp)
  clear hr0 hq0 hb0 n0 hW0 hq hs1 hp
  go_enter Try.func67, Try.ntmps67
  go_upto_region 2 with (first
    | (with_reducible refine wpList_alloc28 (o := ⟨some 2, _, _, _, _, _⟩) w.heap.size rfl rfl 2 rfl rfl ?_)
    | (with_reducible refine wpList_alloc28 (o := ⟨some 3, _, _, _, _, _⟩) (w.heap.size + 1) (by simp) rfl 3 rfl rfl ?_))
  (try rw [HS1.out])
  (try rw [← HQ.out])
  rw [← HW.out]
  clear HW
  refine wp_region_noPanic ?_
  refine wp_region_held_drew (S := fun _ => True) (by kernel_rfl) trivial (fun hHeld => ?_)
  refine takeH_at 0 4 (v := ?_) rfl rfl (by kernel_rfl) (by kernel_rfl) (by kernel_rfl) (fun _ _ _ h => h) (Or.inl ⟨by rfl, ?_⟩) (by trivial) ?_
  rotate_left
  · (intro wx hSw; (try dsimp only at hSw); go_simp) <;> with_reducible rfl
  simp only [Act.put, List.setIfInBounds_toArray, List.set_cons_zero, List.set_cons_succ]
  refine takeH_at 1 5 (v := ?_) rfl rfl (by kernel_rfl) (by kernel_rfl) (by kernel_rfl) (fun _ _ _ h => h) (Or.inl ⟨by rfl, ?_⟩) (by trivial) ?_
  rotate_left
  · (intro wx hSw; (try dsimp only at hSw); go_simp) <;> with_reducible rfl
  simp only [Act.put, List.setIfInBounds_toArray, List.set_cons_zero, List.set_cons_succ]
  refine takeH_at 2 6 (v := ?_) rfl rfl (by kernel_rfl) (by kernel_rfl) (by kernel_rfl) (fun _ _ _ h => h) (Or.inl ⟨by rfl, ?_⟩) (by trivial) ?_
  rotate_left
  · (intro wx hSw; (try dsimp only at hSw); go_simp) <;> with_reducible rfl
  simp only [Act.put, List.setIfInBounds_toArray, List.set_cons_zero, List.set_cons_succ]
  refine wpAnyH_ready (rs := [3]) (by kernel_rfl) (by simp) ?_
  refine AllReadyH.cons rfl (fun K hK => ?_) AllReadyH.nil
  go_simp
  go_wp2_with (go_at_call 96; (with_reducible refine (H1.out _ N0.out).mono ?_); rintro e2 w2 ⟨rfl, n2⟩)
  refine hK.out _ _ (by trivial) (fun hHeld => ?_)
  clear hK K
  refine wpAnyH_ready (rs := [4]) (by kernel_rfl) (by simp) ?_
  refine AllReadyH.cons rfl (fun K hK => ?_) AllReadyH.nil
  refine step_copy_row rfl 8 rfl (.tmp 5) (.tmp 7) 30 30 rfl 5 Try.underlying30 size5c (some ⟨q, 0, none⟩) none 20 20 0 0 rfl rfl q 0 (encI zeroI) 28 n2.hq [] rfl (fun hp => absurd hp (by simp)) (by simp) HONE.out ?_
  intro w3 hq3 hg3
  refine hK.out _ _ (by trivial) (fun hHeld => ?_)
  clear hK K
  refine wpAnyH_done (by kernel_rfl) ?_ _
  refine NoPanic.normal ?_
  simp only [Act.put, List.setIfInBounds_toArray, List.set_cons_zero, List.set_cons_succ]
  have n3 := H3.out _ _ n2 hq3 hg3
  clear n2 hq3 hg3 H1 H3 N0 HONE
  go_upto_region 14 with (first
    | (go_at_call 74; (with_reducible refine (N1.out _ n3).mono ?_); rintro e4 w4 ⟨rfl, n4, c4, f4⟩)
    | (go_at_call 74; (with_reducible refine (N2.out _ (P1.out _ n4)).mono ?_); rintro e5 w5 ⟨rfl, n5, c5, f5⟩)
    | (go_at_call 74; (with_reducible refine (N3.out _ (P2.out _ n5)).mono ?_); rintro e6 w6 ⟨rfl, n6, c6, f6⟩)
    | (go_at_call 74; (with_reducible refine (N4.out _ (P3.out _ n6)).mono ?_); rintro e7 w7 ⟨rfl, n7⟩)
    | (go_at_call 48; (with_reducible refine (FT.out _).mono ?_); rintro e8 w8 ⟨rfl, rfl⟩)
    | (go_at_call 48; (with_reducible refine (FF.out _).mono ?_); rintro e9 w9 ⟨rfl, rfl⟩)
    | (go_at_call 74; (with_reducible refine (N5.out _ n7).mono ?_); rintro e10 w10 ⟨rfl, n10, c10, f10⟩)
    | (go_at_call 74; (with_reducible refine (N6.out _ (P5.out _ n10)).mono ?_); rintro e11 w11 ⟨rfl, n11, c11, f11⟩)
    | (go_at_call 74; (with_reducible refine (N7.out _ (P6.out _ n11)).mono ?_); rintro e12 w12 ⟨rfl, n12, c12, f12⟩)
    | (go_at_call 97; (with_reducible refine (N8.out _ (P7.out _ n12)).mono ?_); rintro e13 w13 ⟨rfl, n13, c13, f13⟩))
  have nE := P8.out _ n13
  generalize w13.setCell ⟨q, 27, none⟩ (.string ⟨#[]⟩) = wE at *
  have HLD := Lib.hid (load28 (row_range nE.hq))
  have ht : wE.there w.heap.size 0 28 := by
    have := row_there nE.hr
    rwa [encI_length] at this
  have H91 := Lib.hid ht
  have H92 := Lib.hid (World.rangeAt_setCells_same wE w.heap.size 0 (encI zeroI) (by rw [encI_length]; exact ht))
  have H93 := Lib.hid (below_cellsE (Nat.le_refl _) (encI zeroI) 0 wE nE.be)
  have HSZ : Hid ((Try.prog.info? 28).map (·.size) = some (encI zeroI).length) := Lib.hid (by rw [encI_length]; exact size28i)
  clear ht nE
  generalize hX : (encI zeroI).toArray = X at HLD ⊢
  have HX := Lib.hid hX
  clear hX
  go_wp2_with (first
    | ((with_reducible refine wpList_loadV (op := ⟨some 43, _, _, _, _, _⟩) rfl 28 (.tmp 3) rfl ⟨q, 0, none⟩ ?_ _ HLD.out ?_); rfl)
    | ((with_reducible refine wpList_store28 (o := ⟨none, _, _, _, _, _⟩) rfl (.tmp 2) (.tmp 43) rfl w.heap.size zeroI ?_ ?_ H91.out ?_); rfl; (rw [HX.out]; rfl)))
  rw [← HX.out]
  refine bodyPost_ret (v := .agg (encI zeroI).toArray) ?_ rfl ?_
  · exact results_cell1 (p := 2) (ty := 28) rfl _ _ w.heap.size 0 (encI zeroI) _ rfl H92.out Try.underlying28 rfl HSZ.out
  · exact ⟨rfl, H93.out⟩
theorem spoil_nil (w : World) : Calls Try.prog 68 #[.pointer none] w fun e w' => e = .returned (.tuple #[]) ∧ w' = w := by
  have H := Lib.hid (take_nil (-1) w)
  go_enter Try.func68, Try.ntmps68
  go_wp2_with (go_at_call 96; (with_reducible refine H.out.mono ?_); rintro e w1 ⟨rfl, rfl⟩)
  go_end0
  exact ⟨rfl, rfl⟩
theorem iread_nil (w : World) : Calls Try.prog 29 #[.pointer none] w fun e w' => e = .returned (.tuple #[.agg (encI zeroI).toArray, .bool false]) ∧ Below w.heap.size w w' := by
  obtain ⟨W0, hW0⟩ : ∃ W0, W0 = w.alloc (.cells (encI zeroI).toArray 28) := ⟨_, rfl⟩
  have hb0 : Below w.heap.size w W0 := by rw [hW0]; exact (Below.refl _ w).alloc (Nat.le_refl _) _
  have hr0 : W0.heap[w.heap.size]? = some (.cells (encI zeroI).toArray 28 (0, 0)) := by rw [hW0]; exact heap_alloc_new w _
  have hl0 : w.heap.size < W0.heap.size := (Array.getElem?_eq_some_iff.1 hr0).1
  have HN := Lib.hid (inext_nil W0)
  have HX : Hid (∀ w1, Below W0.heap.size W0 w1 → NZI w w.heap.size w1.heap.size (w1.alloc (.cells (encI zeroI).toArray 28))) := Lib.hid (fun w1 h1 => by
    have hba : Below w1.heap.size w1 (w1.alloc (.cells (encI zeroI).toArray 28)) := (Below.refl _ w1).alloc (Nat.le_refl _) _
    have hr1 := (h1.block _ hl0).trans hr0
    have hl1 := (Array.getElem?_eq_some_iff.1 hr1).1
    have hbb := hb0.trans (h1.mono hb0.size)
    exact ⟨(hba.block _ hl1).trans hr1, heap_alloc_new w1 _, hbb.trans (hba.mono hbb.size), Nat.le_refl _, by omega, by omega⟩)
  have hzg : goodI zeroI = false := by decide +kernel
  have HG : Hid (∀ W q, NZI w w.heap.size q W → Calls Try.prog 14 #[.agg (encI zeroI).toArray] W fun e W' => e = .returned (.bool false) ∧ NZI w w.heap.size q W') := Lib.hid (fun W q n => (igood_any zeroI (by decide) W).mono (by
    rintro e W' ⟨rfl, hb⟩
    rw [hzg]
    exact ⟨rfl, (hb.block _ (Array.getElem?_eq_some_iff.1 n.hr).1).trans n.hr, (hb.block _ (Array.getElem?_eq_some_iff.1 n.hq).1).trans n.hq, n.be.trans (hb.mono n.be.size), n.rw, n.qw, n.rq⟩))
  have HL : Hid (∀ (W : World) (q : Nat), NZI w w.heap.size q W → (loadVar 28 ⟨q, 0, none⟩).run Try.prog W = .ok (.agg (encI zeroI).toArray) W) := Lib.hid (fun W q n => load28 (row_range n.hq))
  have HSP := Lib.hid spoil_nil
  have HT : Hid (∀ W q, NZI w w.heap.size q W → W.there w.heap.size 0 28 ∧ (W.setCells w.heap.size 0 (encI zeroI)).rangeAt w.heap.size 0 (encI zeroI) ∧ Below w.heap.size w (W.setCells w.heap.size 0 (encI zeroI))) := Lib.hid (fun W q n => by
    have ht : W.there w.heap.size 0 28 := by
      have := row_there n.hr
      rwa [encI_length] at this
    exact ⟨ht, World.rangeAt_setCells_same W _ 0 _ (by rw [encI_length]; exact ht), below_cellsE (Nat.le_refl _) _ 0 W n.be⟩)
  have HW := Lib.hid hW0
  have HBU := Lib.hid (fun W => build28z W)
  have HSZ : Hid ((Try.prog.info? 28).map (·.size) = some (encI zeroI).length) := Lib.hid (by rw [encI_length]; exact size28i)
  obtain ⟨Y, hY⟩ : ∃ Y, Y = (encI zeroI).toArray := ⟨_, rfl⟩
  have HY := Lib.hid hY
  rw [← hY] at HX HG HL HN
  clear hY hW0 hb0 hr0 hl0 hzg
  go_enter Try.func29, Try.ntmps29
  go_wp2_with (first
    | (with_reducible refine wpList_alloc28 (o := ⟨some 2, _, _, _, _, _⟩) w.heap.size rfl rfl 2 rfl rfl ?_)
    | (go_at_call 67; rw [← HW.out]; (with_reducible refine HN.out.mono ?_); rintro e w1 ⟨rfl, h1⟩)
    | (with_reducible refine wpList_alloc28 (o := ⟨some 4, _, _, _, _, _⟩) w1.heap.size rfl rfl 4 rfl rfl ?_)
    | ((with_reducible refine wpList_store28n (o := ⟨none, _, _, _, _, _⟩) rfl (.tmp 4) (.tmp 6) rfl w1.heap.size rfl zeroI zeroI ?_ ?_ ?_); rfl; (rw [← HY.out]; rfl); rw [← HY.out])
    | ((with_reducible refine wpList_loadV (op := ⟨some 7, _, _, _, _, _⟩) rfl 28 (.tmp 4) rfl ⟨w1.heap.size, 0, none⟩ ?_ _ (HL.out _ _ (HX.out _ h1)) ?_); rfl)
    | (go_at_call 14; (with_reducible refine (HG.out _ _ (HX.out _ h1)).mono ?_); rintro e w2 ⟨rfl, n2⟩)
    | (go_at_call 68; (with_reducible refine (HSP.out _).mono ?_); rintro e w3 ⟨rfl, rfl⟩)
    | ((with_reducible refine wpList_buildV (o := ⟨some 12, _, _, _, _, _⟩) rfl 28 #[] rfl #[] ?_ _ (HBU.out _) ?_); rfl)
    | ((with_reducible refine wpList_store28 (o := ⟨none, _, _, _, _, _⟩) rfl (.tmp 2) (.tmp 12) rfl w.heap.size zeroI ?_ ?_ (HT.out _ _ n2).1 ?_); rfl; rfl))
  refine bodyPost_ret (v := .tuple #[.agg (encI zeroI).toArray, .bool false]) ?_ rfl ?_
  · exact results_cs (p := 2) (t := 3) (ty := 28) rfl _ _ w.heap.size 0 (encI zeroI) _ _ rfl rfl (HT.out _ _ n2).2.1 Try.underlying28 rfl HSZ.out
  · exact ⟨rfl, (HT.out _ _ n2).2.2⟩
end Go.Proofs.Ytkceipkgebgigaa
end
section
namespace Go.Proofs.Ytkceipkgebgigaa
open Go.Shelf Go.RowKit Go.Lib Go.Great
set_option maxRecDepth 100000
set_option maxHeartbeats 400000
theorem rosread_nil (w : World) : Calls Try.prog 36 #[.pointer none] w fun e w' => e = .returned (.slice none 0 0) ∧ Below w.heap.size w w' := by
  have H := Lib.hid (num_nil 1 w)
  have HG := Lib.hid (gd_any none 0 [] w (by intro y hy; cases hy) (.inl rfl))
  rw [show goodR [] = true from rfl] at HG
  change Hid (Calls Try.prog 40 #[.slice none 0 0] w _) at HG
  go_enter Try.func36, Try.ntmps36
  go_upto_region 3 with (first | (go_at_call 74; (with_reducible refine H.out.mono ?_); rintro e w1 ⟨rfl, rfl⟩))
  go_loopg [3, 8] 0 (fun _ s3 s wr => s3 = .slice none 0 0 ∧ s = .int .u64 0 ∧ wr = w1)
  case atStart => exact ⟨rfl, rfl, rfl⟩
  case round =>
    obtain ⟨rfl, rfl, rfl⟩ := hrel
    go_wp2_with (first | (go_at_call 40; (with_reducible refine HG.out.mono ?_); rintro e w2 ⟨rfl, hb2⟩))
    go_ret
    exact ⟨rfl, hb2⟩
end Go.Proofs.Ytkceipkgebgigaa
end
section
namespace Go.Proofs.Ytkceipkgebgigaa
open Go.Shelf Go.RowKit Go.Lib Go.Great
set_option maxRecDepth 100000
set_option maxHeartbeats 400000
theorem zero_bad : goodI zeroI = false := by decide +kernel
theorem rosN_mem (s : St) : ∀ (N j : Nat), j < N → readI (rosN j s).2 ∈ (rosN N s).1
  | 0, _, h => by omega
  | N + 1, j, h => by
    rw [rosN]
    by_cases hj : j = N
    · subst hj
      exact List.mem_append_right _ (List.mem_singleton.2 rfl)
    · exact List.mem_append_left _ (rosN_mem s N j (by omega))
theorem goodR_all {L : List Ins} (h : goodR L = true) : ∀ x ∈ L, goodI x = true := by
  intro x hx
  obtain ⟨k, hk, rfl⟩ := List.mem_iff_getElem.1 hx
  have := ((goodR_iff L).1 h).2 k hk
  unfold okAt at this
  rw [Bool.and_eq_true, getElem!_pos L k hk] at this
  exact this.1
/-- A read that fails leaves no roster. -/
theorem ros_fail {s : St} {j : Nat} (hj : j < numV s 1) (hc : goodI (nextI (rosN j (numS s 1)).2) = false) : rosL s = [] ∧ rosS s = ⟨[], true⟩ := by
  have hm := rosN_mem (numS s 1) (numV s 1) j hj
  have hz : readI (rosN j (numS s 1)).2 = zeroI := by unfold readI; rw [if_neg (by rw [hc]; decide)]
  rw [hz] at hm
  have : rosG s = false := by
    cases hg : rosG s with
    | false => rfl
    | true =>
      have := goodR_all hg _ hm
      rw [zero_bad] at this
      cases this
  unfold rosL rosS
  rw [this]
  exact ⟨rfl, rfl⟩
end Go.Proofs.Ytkceipkgebgigaa
end
section
namespace Go.Proofs.Ytkceipkgebgigaa
open Go.Shelf Go.RowKit Go.Lib Go.Great
set_option maxRecDepth 100000
set_option maxHeartbeats 2000000
theorem rgd_none (A : Option Addr) (c : Nat) (w : World) : Calls Try.prog 76 #[.slice A 0 c] w fun e w' => e = .returned (.bool true) ∧ w' = w := by
  go_enter Try.func76, Try.ntmps76
  go_wp2
  go_loopg [3] 0 (fun _ s wr => s = .int .i64 0 ∧ wr = w)
  case atStart => exact ⟨rfl, rfl⟩
  case round =>
    obtain ⟨rfl, rfl⟩ := hrel
    go_wp2
    go_ret
    exact ⟨rfl, rfl⟩
theorem rgd_some (b off c : Nat) (L : List Ins) (w : World) (hL : L.length ≤ 10000) (ht : ∀ k, k < L.length → L[k]!.tgt.length ≤ 100000) (hb : b < w.heap.size) (hr : w.rangeAt b off (flatE encI L)) :
    Calls Try.prog 76 #[.slice (some ⟨b, off, none⟩) L.length c] w fun e w' => e = .returned (.bool (goodR L)) ∧ Below w.heap.size w w' := by
  have HLD : Hid (∀ k, k < L.length → ∀ W, Below w.heap.size w W → (loadVar 28 ⟨b, off + k * 28, none⟩).run Try.prog W = .ok (.agg (encI L[k]!).toArray) W) := Lib.hid (fun k hk W hW => row_load hr hb hW hk)
  have HGD : Hid (∀ k, k < L.length → ∀ W, Calls Try.prog 15 #[.agg (encI L[k]!).toArray] W fun e w' => e = .returned (.bool (goodI L[k]!)) ∧ Below W.heap.size W w') := Lib.hid (fun k hk W => rgoodI_any _ (ht k hk) W)
  have HBP : Hid (∀ (i j : Nat) (W : World), Calls Try.prog 102 #[.agg (encI L[i]!).toArray, .agg (encI L[j]!).toArray] W fun e w' => e = .returned (.bool (decide (cmpP L[i]! L[j]! < 0))) ∧ Below W.heap.size W w') := Lib.hid (fun i j W => before_any _ _ W)
  have HT : Hid ((∀ k, k < L.length → okAt L k = true) → goodR L = decide (L.length ≤ 16)) := Lib.hid (fun h => by
    by_cases hl : L.length ≤ 16
    · rw [decide_eq_true hl]; exact (goodR_iff L).2 ⟨hl, h⟩
    · rw [decide_eq_false hl]; exact goodR_long (by omega))
  have HF : Hid (∀ k, k < L.length → okAt L k = false → goodR L = false) := Lib.hid (fun k hk h => by
    cases hg : goodR L with
    | false => rfl
    | true => rw [((goodR_iff L).1 hg).2 k hk] at h; cases h)
  have HO : Hid (∀ k, okAt L k = (goodI L[k]! && (decide (k = 0) || decide (cmpP L[k - 1]! L[k]! < 0)))) := Lib.hid (fun k => rfl)
  generalize goodR L = r at *
  generalize hn : L.length = n at *
  clear hr ht
  go_enter Try.func76, Try.ntmps76
  go_wp2
  go_loopw [3] (fun i wr => ∃ k : Nat, i = .int .i64 (k : Int) ∧ k ≤ n ∧ (∀ j, j < k → okAt L j = true) ∧ Below w.heap.size w wr) (fun i _ => n - (RowKit.intOf i).toNat)
  case atStart => exact ⟨0, rfl, by omega, fun j hj => by omega, Below.refl _ _⟩
  case round =>
    obtain ⟨k, rfl, hk, hF, hbr⟩ := hrel
    have HD := Lib.hid hF
    clear hF
    by_cases hlt : k < n
    · have hlt' : (k : Int) < (n : Int) := by omega
      have HBN := Lib.hid hbr
      have HQ4 : Hid (∀ q : Kept wr.heap.size wr, (loadVar 28 ⟨b, off + k * 28, none⟩).run Try.prog q.val = .ok (.agg (encI L[k]!).toArray) q.val) := Lib.hid (fun q => HLD.out k hlt _ (HBN.out.trans (q.property.mono HBN.out.size)))
      have HGK := Lib.hid (HGD.out k hlt)
      obtain ⟨Y, hY⟩ : ∃ Y : Ins, Y = L[k]! := ⟨_, rfl⟩
      have HY := Lib.hid hY
      have hok := HO.out k
      rw [← hY] at hok
      rw [← HY.out] at HQ4 HGK
      clear hY
      cases hgk : goodI Y with
      | false =>
        rw [hgk] at hok HGK
        have HRF : Hid (r = false) := Lib.hid (HF.out k hlt (by rw [hok]; rfl))
        clear HT HF HO HD HLD HGD HBP hbr hok hgk
        generalize (encI Y).toArray = X at *
        go_upto_region 4 with fail
        refine wp_region_kept wr.heap.size wr (Below.refl _ _) (by kernel_rfl) (by kernel_rfl) ?_
        repeat (first
          | (go_big_quiet_want; (with_reducible refine quiet_loadV 28 (.tmp 12) rfl _ ?_ _ HQ4.out ?_); rfl; simp only [Act.put, List.setIfInBounds_toArray, List.set_cons_zero, List.set_cons_succ]; go_big_quiet_on)
          | go_big_quiet_step (first | (go_at_call 15; with_reducible exact kept_of (Nat.le_refl _) HGK.out _)))
        refine wpQuiet_nil ?_
        rintro wk ⟨⟨_, hwk⟩, rfl⟩
        go_wp2
        go_ret
        exact ⟨by rw [HRF.out]; rfl, HBN.out.trans (hwk.mono HBN.out.size)⟩
      | true =>
        rw [hgk] at hok HGK
        rw [Bool.true_and] at hok
        rcases Nat.eq_zero_or_pos k with rfl | hpos
        · have HNX : Hid (∀ wx, Below w.heap.size w wx → ∃ k : Nat, Value.int .i64 1 = .int .i64 (k : Int) ∧ k ≤ n ∧ (∀ j, j < k → okAt L j = true) ∧ Below w.heap.size w wx) := Lib.hid (fun wx hx => ⟨1, rfl, by omega, fun j hj => by
            obtain rfl : j = 0 := by omega
            rw [hok]; rfl, hx⟩)
          clear HT HF HO HD HLD HGD HBP hbr hok hgk
          generalize (encI Y).toArray = X at *
          go_upto_region 4 with fail
          refine wp_region_kept wr.heap.size wr (Below.refl _ _) (by kernel_rfl) (by kernel_rfl) ?_
          repeat (first
            | (go_big_quiet_want; (with_reducible refine quiet_loadV 28 (.tmp 12) rfl _ ?_ _ HQ4.out ?_); rfl; simp only [Act.put, List.setIfInBounds_toArray, List.set_cons_zero, List.set_cons_succ]; go_big_quiet_on)
            | go_big_quiet_step (first | (go_at_call 15; with_reducible exact kept_of (Nat.le_refl _) HGK.out _)))
          refine wpQuiet_nil ?_
          rintro wk ⟨⟨_, hwk⟩, rfl⟩
          have HBW := Lib.hid (HNX.out _ (HBN.out.trans (hwk.mono HBN.out.size)))
          clear hwk
          go_wp2
          go_roundw
          case rel => exact HBW.out
          case measure => simp [RowKit.intOf]; omega
        · obtain ⟨m, rfl⟩ : ∃ m, k = m + 1 := ⟨k - 1, by omega⟩
          have hlm : m < n := by omega
          have HQP : Hid (∀ q : Kept wr.heap.size wr, (loadVar 28 ⟨b, off + m * 28, none⟩).run Try.prog q.val = .ok (.agg (encI L[m]!).toArray) q.val) := Lib.hid (fun q =>
            HLD.out m hlm _ (HBN.out.trans (q.property.mono HBN.out.size)))
          have HCP := Lib.hid (HBP.out m (m + 1))
          rw [← HY.out] at HCP
          rw [show decide (m + 1 = 0) = false from decide_eq_false (by omega), Bool.false_or, Nat.add_sub_cancel] at hok
          obtain ⟨q, hq⟩ : ∃ q, q = decide (cmpP L[m]! Y < 0) := ⟨_, rfl⟩
          rw [← hq] at hok HCP
          have HNX : Hid (okAt L (m + 1) = true → ∀ wx, Below w.heap.size w wx → ∃ k : Nat, Value.int .i64 ((m : Int) + 1 + 1) = .int .i64 (k : Int) ∧ k ≤ n ∧ (∀ j, j < k → okAt L j = true) ∧ Below w.heap.size w wx) := Lib.hid (fun h wx hx => ⟨m + 1 + 1, by simp, by omega, fun j hj => by
            by_cases e : j = m + 1
            · subst e; exact h
            · exact HD.out j (by omega), hx⟩)
          have HRF := Lib.hid (HF.out (m + 1) hlt)
          cases q with
          | false =>
            have HRR : Hid (r = false) := Lib.hid (HRF.out hok)
            clear HT HF HO HD HLD HGD HBP hbr hok hgk HNX HRF hq
            generalize (encI Y).toArray = X at *
            generalize (encI L[m]!).toArray = Z at *
            go_upto_region 4 with fail
            refine wp_region_kept wr.heap.size wr (Below.refl _ _) (by kernel_rfl) (by kernel_rfl) ?_
            repeat (first
              | (go_big_quiet_want; (with_reducible refine quiet_loadV 28 (.tmp 12) rfl _ ?_ _ HQ4.out ?_); rfl; simp only [Act.put, List.setIfInBounds_toArray, List.set_cons_zero, List.set_cons_succ]; go_big_quiet_on)
              | (go_big_quiet_want; (with_reducible refine quiet_loadV 28 (.tmp 23) rfl _ ?_ _ HQP.out ?_); rfl; simp only [Act.put, List.setIfInBounds_toArray, List.set_cons_zero, List.set_cons_succ]; go_big_quiet_on)
              | (go_big_quiet_want; (with_reducible refine quiet_loadV 28 (.tmp 27) rfl _ ?_ _ HQ4.out ?_); rfl; simp only [Act.put, List.setIfInBounds_toArray, List.set_cons_zero, List.set_cons_succ]; go_big_quiet_on)
              | go_big_quiet_step (first | (go_at_call 15; with_reducible exact kept_of (Nat.le_refl _) HGK.out _) | (go_at_call 102; with_reducible exact kept_of (Nat.le_refl _) HCP.out _)))
            refine wpQuiet_nil ?_
            rintro wk ⟨⟨_, hwk⟩, rfl⟩
            go_wp2
            go_ret
            exact ⟨by rw [HRR.out]; rfl, HBN.out.trans (hwk.mono HBN.out.size)⟩
          | true =>
            have HNY := Lib.hid (HNX.out hok)
            clear HT HF HO HD HLD HGD HBP hbr hok hgk HNX HRF hq
            generalize (encI Y).toArray = X at *
            generalize (encI L[m]!).toArray = Z at *
            go_upto_region 4 with fail
            refine wp_region_kept wr.heap.size wr (Below.refl _ _) (by kernel_rfl) (by kernel_rfl) ?_
            repeat (first
              | (go_big_quiet_want; (with_reducible refine quiet_loadV 28 (.tmp 12) rfl _ ?_ _ HQ4.out ?_); rfl; simp only [Act.put, List.setIfInBounds_toArray, List.set_cons_zero, List.set_cons_succ]; go_big_quiet_on)
              | (go_big_quiet_want; (with_reducible refine quiet_loadV 28 (.tmp 23) rfl _ ?_ _ HQP.out ?_); rfl; simp only [Act.put, List.setIfInBounds_toArray, List.set_cons_zero, List.set_cons_succ]; go_big_quiet_on)
              | (go_big_quiet_want; (with_reducible refine quiet_loadV 28 (.tmp 27) rfl _ ?_ _ HQ4.out ?_); rfl; simp only [Act.put, List.setIfInBounds_toArray, List.set_cons_zero, List.set_cons_succ]; go_big_quiet_on)
              | go_big_quiet_step (first | (go_at_call 15; with_reducible exact kept_of (Nat.le_refl _) HGK.out _) | (go_at_call 102; with_reducible exact kept_of (Nat.le_refl _) HCP.out _)))
            refine wpQuiet_nil ?_
            rintro wk ⟨⟨_, hwk⟩, rfl⟩
            have HBW := Lib.hid (HNY.out _ (HBN.out.trans (hwk.mono HBN.out.size)))
            clear hwk
            go_wp2
            go_roundw
            case rel => exact HBW.out
            case measure => simp [RowKit.intOf]; omega
    · have hlt' : ¬ (k : Int) < (n : Int) := by omega
      have HRT : Hid (r = decide (n ≤ 16)) := Lib.hid (HT.out (fun j hj => HD.out j (by omega)))
      have HBR := Lib.hid hbr
      clear HT HF HO HD HLD HGD HBP hbr
      by_cases h16 : n ≤ 16
      · have h16' : (n : Int) ≤ 16 := by omega
        rw [decide_eq_true h16] at HRT
        go_wp2
        go_ret
        exact ⟨by rw [HRT.out]; rfl, HBR.out⟩
      · have h16' : ¬ (n : Int) ≤ 16 := by omega
        rw [decide_eq_false h16] at HRT
        go_wp2
        go_ret
        exact ⟨by rw [HRT.out]; rfl, HBR.out⟩
/-- Good of the reference. -/
theorem rgd_any (A : Option Addr) (c : Nat) (L : List Ins) (w : World) (hl : L.length ≤ 10000) (ht : ∀ x ∈ L, x.tgt.length ≤ 100000) (hA : IAt w w.heap.size A L) :
    Calls Try.prog 76 #[.slice A L.length c] w fun e w' => e = .returned (.bool (goodR L)) ∧ Below w.heap.size w w' := by
  rcases hA with rfl | ⟨g, off, rfl, hg, hr⟩
  · refine (rgd_none A c w).mono ?_
    rintro e w' ⟨rfl, rfl⟩
    exact ⟨rfl, Below.refl _ _⟩
  · exact rgd_some g off c L w hl (fun k hk => ht _ (by rw [getElem!_pos L k hk]; exact List.getElem_mem hk)) hg hr
end Go.Proofs.Ytkceipkgebgigaa
end
