/- Read of the reference. Conditions: at most 900,000 bytes. ReadList of the reference. Conditions: at most 900,000 bytes. -/
import Derived.Test.YtbfhfnbhfeedbaaXCrd
import Derived.Test.YtbfhfnbhfeedbaaXCdq
import Derived.Test.YtbfhfnbhfeedbaaXCwb
section
namespace Go.Proofs.Ytbfhfnbhfeedbaa
open Go.Shelf Go.RowKit Go.Lib Go.Sort Go.Great
set_option maxRecDepth 1000000
set_option maxHeartbeats 2000000
theorem build73 (W : World) : (Instr.build 73 #[]).run Try.prog W = .ok (.agg (encC default).toArray) W := by kernel_rfl
theorem wpList_alloc73a {w : World} {ops : Array Oper} {rest : List Oper} {o : Oper} {a : Act} {Q : Exit → Act → World → Prop} (hgd : o.guard = none) (d : Nat) (hd : o.dst = some d) (ho : o.op = .alloc 73)
    (h : wpList Try.prog ops Q rest (a.put (some d) (.pointer (some ⟨w.heap.size, 0, none⟩))) (w.alloc (.cells (encC default).toArray 73))) : wpList Try.prog ops Q (o :: rest) a w :=
  wpList_plain hgd fun _ hK => by
    have hz := fun W => zV73 W
    generalize (encC default).toArray = Z at hz h
    unfold Oper.wp execOp
    simp only [ho, Instr.alloc, Sem.run_bind, hz, Result.andThen_ok, Value.cells]
    simp [Oper.upon, hd]
    exact hK _ _ h
theorem wpList_store73a {w : World} {ops : Array Oper} {rest : List Oper} {o : Oper} {a : Act} {Q : Exit → Act → World → Prop} (hgd : o.guard = none) (x y : Operand) (ho : o.op = .store 73 x y) (z c : Con) (hx : a.eval x = .pointer (some ⟨w.heap.size, 0, none⟩)) (hy : a.eval y = .agg (encC c).toArray)
    (h : wpList Try.prog ops Q rest (a.put o.dst undef) (w.alloc (.cells (encC c).toArray 73))) : wpList Try.prog ops Q (o :: rest) a (w.alloc (.cells (encC z).toArray 73)) := by
  have hsz : (encC c).toArray.size = 22 := by rw [List.size_toArray, encC_length]
  refine wpList_store_mid (P := Try.prog) hgd 73 x y ho w.heap.size 0 (encC c).toArray hx hy ?_ (by rw [hsz]; exact size73) ?_ ?_
  · have := there_new w 73 (encC z)
    rw [encC_length] at this
    rw [hsz]
    exact this
  · rw [Array.all_eq_true_iff_forall_mem]
    intro v hv
    exact encC_one c v (by simpa using hv)
  · rw [show (encC c).toArray.toList = encC c from rfl, setCells_all w 73 (encC z) (encC c) (by rw [encC_length, encC_length])]
    exact h
theorem wpList_store73at {w : World} {ops : Array Oper} {rest : List Oper} {o : Oper} {a : Act} {Q : Exit → Act → World → Prop} (hgd : o.guard = none) (x y : Operand) (ho : o.op = .store 73 x y) (g f : Nat) (c : Con) (hx : a.eval x = .pointer (some ⟨g, f, none⟩)) (hy : a.eval y = .agg (encC c).toArray) (hth : w.there g f 22)
    (h : wpList Try.prog ops Q rest (a.put o.dst undef) (w.setCells g f (encC c))) : wpList Try.prog ops Q (o :: rest) a w := by
  have hsz : (encC c).toArray.size = 22 := by rw [List.size_toArray, encC_length]
  refine wpList_store_mid (P := Try.prog) hgd 73 x y ho g f (encC c).toArray hx hy (by rw [hsz]; exact hth) (by rw [hsz]; exact size73) ?_ h
  rw [Array.all_eq_true_iff_forall_mem]
  intro v hv
  exact encC_one c v (by simpa using hv)
theorem size71a {h p : Nat} : (Try.prog.info? 71).map (·.size) = some (adr h p).size := by show _ = some 2; kernel_rfl
/-- While Read of the reference runs. -/
structure RWx (w : World) (cq : List Value) (W : World) : Prop where
  hr : W.heap[w.heap.size]? = some (.cells (encC default).toArray 73 (0, 0))
  hq : W.heap[w.heap.size + 1]? = some (.cells cq.toArray 73 (0, 0))
  be : Below w.heap.size w W
section
variable {w W W' : World} {cq cq' : List Value}
theorem RWx.lt (r : RWx w cq W) : w.heap.size < W.heap.size ∧ w.heap.size + 1 < W.heap.size := ⟨(Array.getElem?_eq_some_iff.1 r.hr).1, (Array.getElem?_eq_some_iff.1 r.hq).1⟩
theorem RWx.bel (r : RWx w cq W) (hb : Below W.heap.size W W') : RWx w cq W' := ⟨(hb.block _ r.lt.1).trans r.hr, (hb.block _ r.lt.2).trans r.hq, r.be.trans (hb.mono r.be.size)⟩
theorem RWx.put (r : RWx w cq W) (hq : W'.heap[w.heap.size + 1]? = some (.cells cq'.toArray 73 (0, 0))) (hg : W.grownBy W' (some (w.heap.size + 1))) : RWx w cq' W' :=
  ⟨(hg.block _ r.lt.1 (by intro e; injection e with e; omega)).trans r.hr, hq, below_ownB r.be r.be.size hg (fun k hk => by injection hk with hk; omega)⟩
theorem RWx.fin (r : RWx w cq W) (c : Con) : W.there w.heap.size 0 22 ∧ (W.setCells w.heap.size 0 (encC c)).rangeAt w.heap.size 0 (encC c) ∧ Below w.heap.size w (W.setCells w.heap.size 0 (encC c)) := by
  have ht : W.there w.heap.size 0 22 := by
    have := row_there r.hr
    rw [encC_length] at this
    exact this
  exact ⟨ht, World.rangeAt_setCells_same W w.heap.size 0 (encC c) (by rw [encC_length]; exact ht), below_cellsE (Nat.le_refl _) _ _ _ r.be⟩
end
theorem rcread_len (A : Option Addr) (n c : Nat) (hn : n ≠ 26) (w : World) : Calls Try.prog 45 #[.slice A n c] w fun e w' => e = .returned (.tuple #[.agg (encC default).toArray, .int .i64 10]) ∧ Below w.heap.size w w' := by
  have hn' : ((n : Int) == 26) = false := by simp; omega
  have hn2 : ¬ (n : Int) = 26 := by omega
  have HBU := Lib.hid (fun W => build73 W)
  have HR := Lib.hid (row_range (heap_alloc_new w (.cells (encC default).toArray 73)))
  have HB : Hid (Below w.heap.size w (w.alloc (.cells (encC default).toArray 73))) := Lib.hid ((Below.refl _ w).alloc (Nat.le_refl _) _)
  have hl := encC_length default
  go_enter Try.func45, Try.ntmps45
  go_wp2_with (first
    | (with_reducible refine wpList_alloc73a (o := ⟨some 2, _, _, _, _, _⟩) rfl 2 rfl rfl ?_)
    | ((with_reducible refine wpList_buildG (o := ⟨some 10, _, _, _, _, _⟩) ?_ 73 rfl _ (HBU.out _) ?_); rfl)
    | ((with_reducible refine wpList_store73a (o := ⟨none, _, _, _, _, _⟩) rfl (.tmp 2) (.tmp 10) rfl default default ?_ ?_ ?_); rfl; rfl))
  refine bodyPost_ret (v := .tuple #[.agg (encC default).toArray, .int .i64 10]) ?_ rfl ?_
  · exact results_cell_tmpS (p := 2) (ty := 73) (q := 3) rfl _ _ w.heap.size 0 (encC default) _ (.int .i64 10) rfl rfl HR.out Try.underlying73 rfl (by rw [hl]; exact size73)
  · exact ⟨rfl, HB.out⟩
theorem rcread_six (g0 off0 c : Nat) (xs : List UInt8) (hx : xs.length = 26) (hc : 26 ≤ c) (w : World) (hA : BAt w w.heap.size (some ⟨g0, off0, none⟩) xs) :
    Calls Try.prog 45 #[.slice (some ⟨g0, off0, none⟩) 26 c] w fun e w' => e = .returned (.tuple #[.agg (encC (rdK xs)).toArray, .int .i64 (rdE xs)]) ∧ Below w.heap.size w w' := by
  obtain ⟨hr0, hq0, hb0⟩ := heap2 w (.cells (encC default).toArray 73) (.cells (encC default).toArray 73)
  obtain ⟨W0, hW0⟩ : ∃ W0, W0 = (w.alloc (.cells (encC default).toArray 73)).alloc (.cells (encC default).toArray 73) := ⟨_, rfl⟩
  rw [← hW0] at hr0 hq0 hb0
  have N0 : Hid (RWx w (encC default) W0.drew) := Lib.hid ⟨hr0, hq0, hb0.drew⟩
  obtain ⟨V1, hV1⟩ : ∃ V, V = xs.take 20 := ⟨_, rfl⟩
  obtain ⟨V2, hV2⟩ : ∃ V, V = xs.drop 20 := ⟨_, rfl⟩
  have hv1 : V1.length = 20 := by rw [hV1, List.length_take]; omega
  have hv2 : V2.length = 6 := by rw [hV2, List.length_drop]; omega
  have HV1 : Hid (∀ W, Below w.heap.size w W → ∀ j v, (bcells V1)[j]? = some v → W.cell? ((⟨g0, off0, none⟩ : Addr).add j) = some v) := Lib.hid (fun W hW j v hv => by
    have h1 := (hA.below hW).head (k := 20) (c := c) (by omega)
    have e1 : headA (some (⟨g0, off0, none⟩ : Addr)) c = some ⟨g0, off0, none⟩ := by unfold headA; rw [if_neg (by omega)]; simp [addr_add]
    rw [e1, ← hV1] at h1
    obtain ⟨ad, ha, h2⟩ := h1.cells (by rw [bcells_length]; omega)
    injection ha with ha
    subst ha
    exact h2 j v hv)
  have H80 : Hid (∀ W, Below w.heap.size w W → Calls Try.prog 80 #[.slice (some ⟨g0, off0 + 20, none⟩) 6 (c - 20)] W fun e w' => e = .returned (readV V2) ∧ Below W.heap.size W w') := Lib.hid (fun W hW => by
    have h1 := (hA.below hW).cut (k := 20) (c := c) (by omega) (by omega)
    have e1 : cutA (some (⟨g0, off0, none⟩ : Addr)) c 20 = some ⟨g0, off0 + 20, none⟩ := by unfold cutA; rw [if_neg (by omega)]; simp [addr_add]
    rw [e1, ← hV2] at h1
    have := rread_any (some ⟨g0, off0 + 20, none⟩) (c - 20) V2 W (h1.more hW.size)
    rwa [hv2] at this)
  obtain ⟨cq, hcq⟩ : ∃ cq, cq = splice (encC default) 0 (bcells V1) := ⟨_, rfl⟩
  have H3 : Hid (∀ w2 w3, RWx w (encC default) w2 → w3.heap[w.heap.size + 1]? = some (.cells (splice (encC default) 0 (bcells V1)).toArray 73 (0, 0)) → w2.grownBy w3 (some (w.heap.size + 1)) → RWx w cq w3) := Lib.hid (fun w2 w3 n hq hg => by rw [hcq]; exact n.put hq hg)
  have HL1 : Hid ((bcells V1).length = Nat.min 20 20 ∧ 0 + (bcells V1).length ≤ (encC default).length ∧ (0 < (bcells V1).length → ∃ ad, some (⟨g0, off0, none⟩ : Addr) = some ad)) := Lib.hid ⟨by rw [bcells_length, hv1]; rfl, by rw [bcells_length, hv1, encC_length]; omega, fun _ => ⟨_, rfl⟩⟩
  have HBU := Lib.hid (fun W => build73 W)
  have HW := Lib.hid hW0
  have HLEN := Lib.hid encC_length
  have h26 : (26 : Int) ≤ (c : Int) := by omega
  have h20 : (20 : Int) ≤ (c : Int) := by omega
  have hc20 : ¬ c = 20 := by omega
  have hc0 : ¬ c = 0 := by omega
  have hrk : rdOk xs ↔ getN (V2.take 4) ≠ 0 ∧ getN ((V2.drop 4).take 2) ≠ 0 := by
    unfold rdOk
    rw [← hV2]
    constructor
    · rintro ⟨_, a, b⟩; exact ⟨a, b⟩
    · rintro ⟨a, b⟩; exact ⟨hx, a, b⟩
  by_cases hok : rdOk xs
  · obtain ⟨ho, hho⟩ : ∃ n, n = getN (V2.take 4) := ⟨_, rfl⟩
    obtain ⟨po, hpo⟩ : ∃ n, n = getN ((V2.drop 4).take 2) := ⟨_, rfl⟩
    have hrv : readV V2 = .tuple #[.agg #[.int .u32 (ho : Int), .int .u16 (po : Int)], .int .i64 0] := by
      unfold readV
      rw [if_pos ⟨hv2, hrk.1 hok⟩, ← hho, ← hpo]
      rfl
    obtain ⟨K, hK⟩ : ∃ K, K = rdK xs := ⟨_, rfl⟩
    have henc : encC K = bcells V1 ++ [.int .u32 (ho : Int), .int .u16 (po : Int)] := by
      rw [hK]
      unfold rdK
      rw [dif_pos hok]
      unfold encC
      simp only
      rw [← hV1, ← hV2, ← hho, ← hpo]
    have hE : rdE xs = 0 := by unfold rdE; rw [if_pos hok]
    have H7 : Hid (∀ W, RWx w cq W → W.there (w.heap.size + 1) 20 (adr ho po).size ∧ RWx w (encC K) (W.setCells (w.heap.size + 1) 20 (adr ho po).toList)) := by
      refine Lib.hid (fun W n => ?_)
      have hcl : cq = bcells V1 ++ [.int .u32 0, .int .u16 0] := by
        rw [hcq]
        unfold splice
        rw [List.take_zero, List.nil_append, bcells_length, hv1]
        rfl
      have hlen : cq.length = 22 := by rw [hcl, List.length_append, bcells_length, hv1]; rfl
      have hth := row_there n.hq
      rw [hlen] at hth
      refine ⟨fun j hj => ?_, ?_⟩
      · have hj2 : j < 2 := hj
        have := hth (20 + j) (by omega)
        rwa [Nat.zero_add] at this
      · refine n.put ?_ (grown_cells _ _ _ (World.grownBy.refl W _))
        have := heap_setCells_row (w.heap.size + 1) 73 [.int .u32 (ho : Int), .int .u16 (po : Int)] 20 cq W n.hq (by rw [hlen]; simp)
        show (W.setCells (w.heap.size + 1) 20 [.int .u32 (ho : Int), .int .u16 (po : Int)]).heap[w.heap.size + 1]? = _
        rw [this, henc]
        refine congrArg (fun l : List Value => some (Obj.cells l.toArray 73 (0, 0))) ?_
        rw [List.drop_of_length_le (by rw [hlen]; simp), List.append_nil, hcl, List.take_append_of_le_length (by rw [bcells_length, hv1]; omega), List.take_of_length_le (by rw [bcells_length, hv1]; omega)]
    rw [hrv] at H80
    rw [hE, ← hK]
    clear hr0 hq0 hb0 hW0 hV1 hV2 hcq hok hrv henc hho hpo hA hrk hK hE hv1 hv2 hx
    go_enter Try.func45, Try.ntmps45
    go_upto_region 4 with (first
      | (with_reducible refine wpList_alloc73a (o := ⟨some 2, _, _, _, _, _⟩) rfl 2 rfl rfl ?_)
      | (with_reducible refine wpList_alloc73 (o := ⟨some 4, _, _, _, _, _⟩) rfl 4 rfl rfl ?_))
    rw [← HW.out]
    clear HW
    refine wp_region_noPanic ?_
    refine wp_region_held_drew (S := fun _ => True) (by kernel_rfl) trivial (fun hHeld => ?_)
    refine takeH_at 0 11 (v := ?_) rfl rfl (by kernel_rfl) (by kernel_rfl) (by kernel_rfl) (fun _ _ _ h => h) (Or.inl ⟨by rfl, ?_⟩) (by trivial) ?_
    rotate_left
    · (intro wx hSw; (try dsimp only at hSw); go_simp) <;> with_reducible rfl
    simp only [Act.put, List.setIfInBounds_toArray, List.set_cons_zero, List.set_cons_succ]
    refine takeH_at 1 12 (v := ?_) rfl rfl (by kernel_rfl) (by kernel_rfl) (by kernel_rfl) (fun _ _ _ h => h) (Or.inl ⟨by rfl, ?_⟩) (by trivial) ?_
    rotate_left
    · (intro wx hSw; (try dsimp only at hSw); go_simp) <;> with_reducible rfl
    simp only [Act.put, List.setIfInBounds_toArray, List.set_cons_zero, List.set_cons_succ]
    refine takeH_at 2 13 (v := ?_) rfl rfl (by kernel_rfl) (by kernel_rfl) (by kernel_rfl) (fun _ _ _ h => h) (Or.inl ⟨by rfl, ?_⟩) (by trivial) ?_
    rotate_left
    · (intro wx hSw; (try dsimp only at hSw); go_simp) <;> with_reducible rfl
    simp only [Act.put, List.setIfInBounds_toArray, List.set_cons_zero, List.set_cons_succ]
    refine takeH_at 3 14 (v := .slice (some ⟨g0, off0, none⟩) 20 c) rfl rfl (by kernel_rfl) (by kernel_rfl) (by kernel_rfl) (fun _ _ _ h => h) (Or.inl ⟨by rfl, ?_⟩) (by trivial) ?_
    · (intro wx hSw; clear hSw; go_simp) <;> (first | done | (intro hcc; exfalso; omega) | (intro hcc; omega) | omega)
    simp only [Act.put, List.setIfInBounds_toArray, List.set_cons_zero, List.set_cons_succ]
    refine wpAnyH_ready (rs := [4]) (by kernel_rfl) (by simp) ?_
    refine AllReadyH.cons rfl (fun K2 hK2 => ?_) AllReadyH.nil
    refine step_copy_row rfl 15 rfl (.tmp 12) (.tmp 14) 22 22 rfl 5 Try.underlying22 size5c (some ⟨w.heap.size + 1, 0, none⟩) _ 20 20 20 c rfl rfl (w.heap.size + 1) 0 (encC default) 73 N0.out.hq (bcells V1) HL1.out.1 (fun hp => ⟨rfl, ⟨g0, off0, none⟩, rfl, HV1.out _ N0.out.be⟩) HL1.out.2.1 (bcells_oneC _) ?_
    intro w3 hq3 hg3
    refine hK2.out _ _ (by trivial) (fun hHeld => ?_)
    clear hK2 K2
    refine wpAnyH_done (by kernel_rfl) ?_ _
    refine NoPanic.normal ?_
    simp only [Act.put, List.setIfInBounds_toArray, List.set_cons_zero, List.set_cons_succ]
    have n3 := H3.out _ _ N0.out hq3 hg3
    clear hq3 hg3 H3 N0 HV1 HL1
    go_upto_region 6 with (first
      | (go_at_call 80; (with_reducible refine (H80.out _ n3.be).mono ?_); rintro e5 w5 ⟨rfl, hb5⟩))
    have n5 := n3.bel hb5
    have n6 := n5.bel ((Below.refl _ w5).alloc (Nat.le_refl _) (.cells #[.int .u32 (ho : Int), .int .u16 (po : Int)] 71))
    have HLD4 := Lib.hid (load71 (row_range (cs := [.int .u32 (ho : Int), .int .u16 (po : Int)]) (heap_alloc_new w5 (.cells #[.int .u32 (ho : Int), .int .u16 (po : Int)] 71))))
    generalize w5.alloc (.cells #[.int .u32 (ho : Int), .int .u16 (po : Int)] 71) = W6 at n6 HLD4 ⊢
    generalize w5.heap.size = b5 at HLD4 ⊢
    obtain ⟨h71, n7⟩ := H7.out _ n6
    obtain ⟨h91, h92, h93⟩ := n7.fin K
    have HLD7 := Lib.hid (load73 (row_range n7.hq))
    have H71 := Lib.hid h71
    have H91 := Lib.hid h91
    have H92 := Lib.hid h92
    have H93 := Lib.hid h93
    clear h71 n7 h91 h92 h93 n6 n5 n3 hb5 H80 H7
    generalize hW8 : (W6.setCells (w.heap.size + 1) 20 (adr ho po).toList) = W7 at *
    go_wp2_with (first
      | ((with_reducible refine wpList_loadV (op := ⟨some 25, _, _, _, _, _⟩) rfl 71 (.tmp 5) rfl ⟨b5, 0, none⟩ ?_ _ HLD4.out ?_); rfl)
      | ((with_reducible refine wpList_store_mid (op := ⟨none, _, _, _, _, _⟩) rfl 71 (.tmp 26) (.tmp 25) rfl (w.heap.size + 1) 20 (adr ho po) ?_ ?_ H71.out size71a (adr_all ho po) ?_); rfl; rfl; rw [hW8])
      | ((with_reducible refine wpList_loadV (op := ⟨some 27, _, _, _, _, _⟩) rfl 73 (.tmp 4) rfl ⟨w.heap.size + 1, 0, none⟩ ?_ _ HLD7.out ?_); rfl)
      | ((with_reducible refine wpList_store73at (o := ⟨none, _, _, _, _, _⟩) rfl (.tmp 2) (.tmp 27) rfl w.heap.size 0 K ?_ ?_ H91.out ?_); rfl; rfl))
    refine bodyPost_ret (v := .tuple #[.agg (encC K).toArray, .int .i64 0]) ?_ rfl ?_
    · exact results_cell_tmpS (p := 2) (ty := 73) (q := 3) rfl _ _ w.heap.size 0 (encC K) _ (.int .i64 0) rfl rfl H92.out Try.underlying73 rfl (by rw [HLEN.out]; exact size73)
    · exact ⟨rfl, H93.out⟩
  · have hrv : readV V2 = .tuple #[.agg #[.int .u32 0, .int .u16 0], .int .i64 10] := by
      unfold readV
      rw [if_neg (fun h => hok (hrk.2 h.2))]
      rfl
    have hE : rdE xs = 10 := by unfold rdE; rw [if_neg hok]
    have hK : rdK xs = default := by unfold rdK; rw [dif_neg hok]
    rw [hrv] at H80
    rw [hE, hK]
    clear hr0 hq0 hb0 hW0 hV1 hV2 hcq hok hrv hA hrk hK hE hv1 hv2 hx
    go_enter Try.func45, Try.ntmps45
    go_upto_region 4 with (first
      | (with_reducible refine wpList_alloc73a (o := ⟨some 2, _, _, _, _, _⟩) rfl 2 rfl rfl ?_)
      | (with_reducible refine wpList_alloc73 (o := ⟨some 4, _, _, _, _, _⟩) rfl 4 rfl rfl ?_))
    rw [← HW.out]
    clear HW
    refine wp_region_noPanic ?_
    refine wp_region_held_drew (S := fun _ => True) (by kernel_rfl) trivial (fun hHeld => ?_)
    refine takeH_at 0 11 (v := ?_) rfl rfl (by kernel_rfl) (by kernel_rfl) (by kernel_rfl) (fun _ _ _ h => h) (Or.inl ⟨by rfl, ?_⟩) (by trivial) ?_
    rotate_left
    · (intro wx hSw; (try dsimp only at hSw); go_simp) <;> with_reducible rfl
    simp only [Act.put, List.setIfInBounds_toArray, List.set_cons_zero, List.set_cons_succ]
    refine takeH_at 1 12 (v := ?_) rfl rfl (by kernel_rfl) (by kernel_rfl) (by kernel_rfl) (fun _ _ _ h => h) (Or.inl ⟨by rfl, ?_⟩) (by trivial) ?_
    rotate_left
    · (intro wx hSw; (try dsimp only at hSw); go_simp) <;> with_reducible rfl
    simp only [Act.put, List.setIfInBounds_toArray, List.set_cons_zero, List.set_cons_succ]
    refine takeH_at 2 13 (v := ?_) rfl rfl (by kernel_rfl) (by kernel_rfl) (by kernel_rfl) (fun _ _ _ h => h) (Or.inl ⟨by rfl, ?_⟩) (by trivial) ?_
    rotate_left
    · (intro wx hSw; (try dsimp only at hSw); go_simp) <;> with_reducible rfl
    simp only [Act.put, List.setIfInBounds_toArray, List.set_cons_zero, List.set_cons_succ]
    refine takeH_at 3 14 (v := .slice (some ⟨g0, off0, none⟩) 20 c) rfl rfl (by kernel_rfl) (by kernel_rfl) (by kernel_rfl) (fun _ _ _ h => h) (Or.inl ⟨by rfl, ?_⟩) (by trivial) ?_
    · (intro wx hSw; clear hSw; go_simp) <;> (first | done | (intro hcc; exfalso; omega) | (intro hcc; omega) | omega)
    simp only [Act.put, List.setIfInBounds_toArray, List.set_cons_zero, List.set_cons_succ]
    refine wpAnyH_ready (rs := [4]) (by kernel_rfl) (by simp) ?_
    refine AllReadyH.cons rfl (fun K2 hK2 => ?_) AllReadyH.nil
    refine step_copy_row rfl 15 rfl (.tmp 12) (.tmp 14) 22 22 rfl 5 Try.underlying22 size5c (some ⟨w.heap.size + 1, 0, none⟩) _ 20 20 20 c rfl rfl (w.heap.size + 1) 0 (encC default) 73 N0.out.hq (bcells V1) HL1.out.1 (fun hp => ⟨rfl, ⟨g0, off0, none⟩, rfl, HV1.out _ N0.out.be⟩) HL1.out.2.1 (bcells_oneC _) ?_
    intro w3 hq3 hg3
    refine hK2.out _ _ (by trivial) (fun hHeld => ?_)
    clear hK2 K2
    refine wpAnyH_done (by kernel_rfl) ?_ _
    refine NoPanic.normal ?_
    simp only [Act.put, List.setIfInBounds_toArray, List.set_cons_zero, List.set_cons_succ]
    have n3 := H3.out _ _ N0.out hq3 hg3
    clear hq3 hg3 H3 N0 HV1 HL1
    go_upto_region 6 with (first
      | (go_at_call 80; (with_reducible refine (H80.out _ n3.be).mono ?_); rintro e5 w5 ⟨rfl, hb5⟩))
    have n5 := n3.bel hb5
    have n6 := n5.bel ((Below.refl _ w5).alloc (Nat.le_refl _) (.cells #[.int .u32 0, .int .u16 0] 71))
    generalize w5.alloc (.cells #[.int .u32 0, .int .u16 0] 71) = W6 at n6 ⊢
    obtain ⟨h91, h92, h93⟩ := n6.fin default
    have H91 := Lib.hid h91
    have H92 := Lib.hid h92
    have H93 := Lib.hid h93
    clear h91 h92 h93 n6 n5 n3 hb5 H80
    go_wp2_with (first
      | ((with_reducible refine wpList_buildG (o := ⟨some 24, _, _, _, _, _⟩) ?_ 73 rfl _ (HBU.out _) ?_); rfl)
      | ((with_reducible refine wpList_store73at (o := ⟨none, _, _, _, _, _⟩) rfl (.tmp 2) (.tmp 24) rfl w.heap.size 0 default ?_ ?_ H91.out ?_); rfl; rfl))
    refine bodyPost_ret (v := .tuple #[.agg (encC default).toArray, .int .i64 10]) ?_ rfl ?_
    · exact results_cell_tmpS (p := 2) (ty := 73) (q := 3) rfl _ _ w.heap.size 0 (encC default) _ (.int .i64 10) rfl rfl H92.out Try.underlying73 rfl (by rw [HLEN.out]; exact size73)
    · exact ⟨rfl, H93.out⟩
theorem rcread_any (A : Option Addr) (c : Nat) (xs : List UInt8) (w : World) (hA : BAt w w.heap.size A xs) (hc : xs.length ≤ c) :
    Calls Try.prog 45 #[.slice A xs.length c] w fun e w' => e = .returned (.tuple #[.agg (encC (rdK xs)).toArray, .int .i64 (rdE xs)]) ∧ Below w.heap.size w w' := by
  by_cases hx : xs.length = 26
  · rcases hA with rfl | ⟨g0, off0, rfl, hg, hcell⟩
    · cases hx
    · have := rcread_six g0 off0 c xs hx (by omega) w (.inr ⟨g0, off0, rfl, hg, hcell⟩)
      rwa [← hx] at this
  · have h : ¬ rdOk xs := fun h => hx h.1
    have hE : rdE xs = 10 := by unfold rdE; rw [if_neg h]
    have hK : rdK xs = default := by unfold rdK; rw [dif_neg h]
    rw [hE, hK]
    exact rcread_len A xs.length c hx w
end Go.Proofs.Ytbfhfnbhfeedbaa
end
section
namespace Go.Proofs.Ytbfhfnbhfeedbaa
open Go.Shelf Go.RowKit Go.Lib Go.Sort Go.Great
set_option maxRecDepth 100000
set_option maxHeartbeats 1000000
/-- The reference's reader, its bytes below a bound. -/
def RRB (w : World) (h : Nat) (A : Option Addr) (c : Nat) (xs : List UInt8) (s : St) (B : Nat) : Prop :=
  ∃ k : Nat, w.heap[h]? = some (.cells #[.slice A xs.length c, .int .i64 (k : Int), .bool s.bad] 93 (0, 0)) ∧ BAt w B A xs ∧ k ≤ xs.length ∧ xs.length ≤ c ∧ xs.length ≤ 900000 ∧ (s.bad = true → k = xs.length) ∧ s.ys = xs.drop k ∧ B ≤ w.heap.size
section
variable {w w' : World} {h c B : Nat} {A : Option Addr} {xs : List UInt8} {s s' : St}
theorem RRB.rs (r : RRB w h A c xs s B) : RRS w h A c xs s := by
  obtain ⟨k, h1, h2, h3, h4, h5, h6, h7, h8⟩ := r
  exact ⟨k, ⟨h1, h2.more h8, h3, h4, h5, h6⟩, h7⟩
theorem RRS.rb (r : RRS w h A c xs s) : RRB w h A c xs s w.heap.size := by
  obtain ⟨k, ⟨h1, h2, h3, h4, h5, h6⟩, h7⟩ := r
  exact ⟨k, h1, h2, h3, h4, h5, h6, h7, Nat.le_refl _⟩
theorem RRB.lt (r : RRB w h A c xs s B) : h < w.heap.size := by
  obtain ⟨k, h1, _⟩ := r
  exact (Array.getElem?_eq_some_iff.1 h1).1
theorem RRB.keep (r : RRB w h A c xs s B) (hg : w'.heap[h]? = w.heap[h]?) (hs : w.heap.size ≤ w'.heap.size) (hk : ∀ i, i < B → w'.heap[i]? = w.heap[i]?) : RRB w' h A c xs s B := by
  obtain ⟨k, h1, h2, h3, h4, h5, h6, h7, h8⟩ := r
  refine ⟨k, hg.trans h1, ?_, h3, h4, h5, h6, h7, by omega⟩
  rcases h2 with h2 | ⟨g', off, rfl, hlt, hcell⟩
  · exact .inl h2
  · refine .inr ⟨g', off, rfl, hlt, fun j hj => ?_⟩
    rw [← hcell j hj]
    simp only [World.cell?, hk g' hlt]
theorem RRB.bel (r : RRB w h A c xs s B) (hb : Below w.heap.size w w') : RRB w' h A c xs s B := by
  obtain ⟨k, _, _, _, _, _, _, _, h8⟩ := id r
  exact r.keep (hb.block h r.lt) hb.size (fun i hi => hb.block i (by omega))
theorem RRB.read (r : RRB w h A c xs s B) (n : RRS w' h A c xs s') (hg : w.grownBy w' (some h)) : RRB w' h A c xs s' B := by
  obtain ⟨k, h1, h2, h3, h4, h5, h6, h7, h8⟩ := r
  obtain ⟨k', ⟨g1, g2, g3, g4, g5, g6⟩, g7⟩ := n
  exact ⟨k', g1, h2.grown h8 hg (h2.ne h1 (by simp) (by simp) (by simp)), g3, g4, g5, g6, g7, by have := hg.size; omega⟩
end
/-- Num, Take of a reader that s says. -/
theorem rrnum_s {w : World} {h c : Nat} {A : Option Addr} {xs : List UInt8} {s : St} (r : RRS w h A c xs s) (n : Int) (hn : n ≤ 9223372036854775807) : Calls Try.prog 86 #[.pointer (some ⟨h, 0, none⟩), .int .i64 n] w (RNumP w h A c xs s n) := by
  obtain ⟨k, hr, hy⟩ := r
  have e1 := St.eta s hy rfl
  have := rrnum_any hr n hn
  rwa [← e1] at this
theorem rrtake_s {w : World} {h c : Nat} {A : Option Addr} {xs : List UInt8} {s : St} (r : RRS w h A c xs s) (n : Int) (hn : n ≤ 9223372036854775807) : Calls Try.prog 48 #[.pointer (some ⟨h, 0, none⟩), .int .i64 n] w (RTakeP w h A c xs s n) := by
  obtain ⟨k, hr, hy⟩ := r
  have e1 := St.eta s hy rfl
  have := rrtake_any hr n hn
  rwa [← e1] at this
theorem takeS_neg (s : St) : takeS s (-1) = ⟨[], true⟩ := by
  unfold takeS
  rw [if_neg (by intro hk; have := hk.2.1; omega)]
theorem nxI_mem (s : St) : ∀ (N j : Nat), j < N → nxC (nxI j s).2 ∈ (nxI N s).1
  | 0, _, h => by omega
  | N + 1, j, h => by
    rw [nxI]
    by_cases hj : j = N
    · subst hj
      exact List.mem_append_right _ (List.mem_singleton.2 rfl)
    · exact List.mem_append_left _ (nxI_mem s N j (by omega))
/-- A read that fails leaves no list. -/
theorem rl_fail {s : St} {N j : Nat} (hN : N = numV s 1) (hj : j < N) (hc : nxC (nxI j (numS s 1)).2 = default) : rlL s = [] ∧ rlS s = ⟨[], true⟩ := by
  have hm := nxI_mem (numS s 1) N j hj
  rw [hc] at hm
  have : rlG s = false := by
    cases hg : rlG s with
    | false => rfl
    | true =>
      unfold rlG at hg
      rw [← hN] at hg
      have := goodC_all hg _ (List.mem_map.2 ⟨_, hm, rfl⟩)
      rw [good_default] at this
      cases this
  unfold rlL rlS
  rw [this]
  exact ⟨rfl, rfl⟩
/-- One read of 26 bytes, beside the program's. -/
theorem take26_cases (ys : List UInt8) : (rdE (takeV ⟨ys, false⟩ 26) = 0 ∧ rdK (takeV ⟨ys, false⟩ 26) = nxC ⟨ys, false⟩ ∧ takeS ⟨ys, false⟩ 26 = nxS ⟨ys, false⟩ ∧ (nxS ⟨ys, false⟩).bad = false) ∨ (rdE (takeV ⟨ys, false⟩ 26) = 10 ∧ rdK (takeV ⟨ys, false⟩ 26) = default ∧ nxC ⟨ys, false⟩ = default) := by
  by_cases hl : 26 ≤ ys.length
  · have hk : takeOk ⟨ys, false⟩ 26 := ⟨rfl, by omega, by show (26 : Int) ≤ (ys.length : Int); omega⟩
    have e1 : takeV ⟨ys, false⟩ 26 = ys.take 26 := by unfold takeV; rw [if_pos hk]; rfl
    have e2 : takeS ⟨ys, false⟩ 26 = ⟨ys.drop 26, false⟩ := by unfold takeS; rw [if_pos hk]; rfl
    rw [e1, e2, nx_con ys hl, (nx_long ys hl).2]
    by_cases hr : rdOk (ys.take 26)
    · left
      exact ⟨by unfold rdE; rw [if_pos hr], rfl, rfl, rfl⟩
    · right
      have : rdK (ys.take 26) = default := by unfold rdK; rw [dif_neg hr]
      exact ⟨by unfold rdE; rw [if_neg hr], this, this⟩
  · right
    have hk : ¬ takeOk ⟨ys, false⟩ 26 := fun h => by have := h.2.2; change (26 : Int) ≤ (ys.length : Int) at this; omega
    have e1 : takeV ⟨ys, false⟩ 26 = [] := by unfold takeV; rw [if_neg hk]
    have hr : ¬ rdOk [] := fun h => by have := h.1; cases this
    rw [e1]
    exact ⟨by unfold rdE; rw [if_neg hr], by unfold rdK; rw [dif_neg hr], by unfold nxC; rw [dif_neg (nx_short ys (by omega)).1]⟩
/-- While ReadList of the reference runs. -/
structure RLF (w1 : World) (h : Nat) (A : Option Addr) (c : Nat) (xs : List UInt8) (s : St) (u : Value) (L : List Con) (W : World) : Prop where
  own : W.ownsRow w1.heap.size 73 22 u L.length (flatE encC L)
  rd : RRB W h A c xs s w1.heap.size
  gr : w1.grownBy W (some h)
  hl : h < w1.heap.size
section
variable {w1 W W' : World} {h c : Nat} {A : Option Addr} {xs : List UInt8} {s s' : St} {u v : Value} {L M : List Con}
theorem RLF.bel (r : RLF w1 h A c xs s u L W) (hb : Below W.heap.size W W') : RLF w1 h A c xs s u L W' := ⟨own_belC r.own hb, r.rd.bel hb, grownBy_trans r.gr (grown_of_bel hb _), r.hl⟩
theorem RLF.read (r : RLF w1 h A c xs s u L W) (n : RRS W' h A c xs s') (hg : W.grownBy W' (some h)) : RLF w1 h A c xs s' u L W' := by
  refine ⟨r.own.kept hg ?_, r.rd.read n hg, grownBy_trans r.gr hg, r.hl⟩
  cases hk : u.ownBlock with
  | none => exact .inl rfl
  | some k =>
    right
    have := (r.own.lt k hk).1
    have := r.hl
    intro e
    injection e with e
    omega
theorem RLF.app (r : RLF w1 h A c xs s u L W) (o : W'.ownsRow w1.heap.size 73 22 v M.length (flatE encC M)) (hg : W.grownBy W' u.ownBlock) : RLF w1 h A c xs s v M W' := by
  have hob : ∀ k, u.ownBlock = some k → w1.heap.size ≤ k := fun k hk => (r.own.lt k hk).1
  have hs := r.gr.size
  refine ⟨o, r.rd.keep (hg.block h r.rd.lt (by intro e; have := hob h (by first | exact e | exact e.symm); have := r.hl; omega)) hg.size (fun i hi => hg.block i (by omega) (by intro e; have := hob i (by first | exact e | exact e.symm); omega)), ?_, r.hl⟩
  exact ⟨hg.os.trans r.gr.os, hg.tape.trans r.gr.tape, hg.output.trans r.gr.output, Nat.le_trans r.gr.size hg.size, fun i hi hne => (hg.block i (Nat.lt_of_lt_of_le hi r.gr.size) (by intro e; have := hob i (by first | exact e | exact e.symm); omega)).trans (r.gr.block i hi hne)⟩
end
def RrIs (w : World) (h : Nat) (A : Option Addr) (c : Nat) (xs : List UInt8) (s : St) (e : Ending) (w' : World) : Prop :=
  ∃ B k, e = .returned (.slice B (rlL s).length k) ∧ CAt w' w'.heap.size B (rlL s) ∧ RRS w' h A c xs (rlS s) ∧ w.grownBy w' (some h)
theorem rcreadlist_any {w : World} {h c : Nat} {A : Option Addr} {xs : List UInt8} {s : St} (r : RRS w h A c xs s) : Calls Try.prog 50 #[.pointer (some ⟨h, 0, none⟩)] w (RrIs w h A c xs s) := by
  have HN := Lib.hid (rrnum_s r 1 (by omega))
  unfold RNumP at HN
  obtain ⟨N, hN⟩ : ∃ N, N = numV s 1 := ⟨_, rfl⟩
  have hN1 : N < 256 := by rw [hN]; exact numV1_lt s
  obtain ⟨s1, hs1⟩ : ∃ s1, s1 = numS s 1 := ⟨_, rfl⟩
  have hs1b : 0 < N → s1.bad = false := by
    intro h0
    rw [hs1]
    unfold numS
    rw [hN] at h0
    unfold numV at h0
    split
    · rfl
    · rename_i hk
      rw [if_neg hk] at h0
      omega
  rw [← hN, ← hs1] at HN
  have HE : Hid (N = numV s 1 ∧ s1 = numS s 1) := Lib.hid ⟨hN, hs1⟩
  have HS1B := Lib.hid hs1b
  have hwr : IntKind.i64.wrap (N : Int) = (N : Int) := by rw [IntKind.wrap_i64]; omega
  clear r hN hs1 hs1b
  go_enter Try.func50, Try.ntmps50
  go_upto_region 4 with (first | (go_at_call 86; (with_reducible refine HN.out.mono ?_); rintro e1 w1 ⟨rfl, hr1, hg1⟩))
  have HG1 := Lib.hid hg1
  have hgl := hr1.rb.lt
  have F0 : Hid (RLF w1 h A c xs s1 (.slice none 0 0) [] w1) := Lib.hid ⟨World.ownsRow_nil w1 _ 73 22, hr1.rb, World.grownBy.refl _ _, hgl⟩
  clear HN hr1 hg1
  go_loopg [4, 5] N (fun kx s4 s5 wr => ∃ (j : Nat), j ≤ N ∧ N - j ≤ kx ∧ s5 = .int .i64 (j : Int) ∧ RLF w1 h A c xs (nxI j s1).2 s4 (nxI j s1).1 wr ∧ (0 < N → (nxI j s1).2.bad = false))
  case atStart => exact ⟨0, by omega, by omega, rfl, F0.out, HS1B.out⟩
  case round =>
    obtain ⟨j, hj, hkx, rfl, hF, hbd⟩ := hrel
    clear F0
    by_cases hlt : j < N
    · have hlt' : (j : Int) < (N : Int) := by omega
      have HF := Lib.hid hF
      have HMISS : Hid (nxC (nxI j s1).2 = default → rlL s = [] ∧ rlS s = ⟨[], true⟩) := Lib.hid (fun hc => rl_fail (j := j) HE.out.1 hlt (by rw [← HE.out.2]; exact hc))
      have hIL := nxI_len j s1
      have hI1 : nxI (j + 1) s1 = ((nxI j s1).1 ++ [nxC (nxI j s1).2], nxS (nxI j s1).2) := by rw [nxI]
      obtain ⟨L, hL⟩ : ∃ L, L = (nxI j s1).1 := ⟨_, rfl⟩
      obtain ⟨sj, hsj⟩ : ∃ sj, sj = (nxI j s1).2 := ⟨_, rfl⟩
      rw [← hL, ← hsj] at hF HF hI1
      rw [← hL] at hIL
      rw [← hsj] at HMISS hbd
      have hsb := hbd (by omega)
      obtain ⟨ys, hys⟩ : ∃ ys, sj = ⟨ys, false⟩ := ⟨sj.ys, by cases sj; simp only at hsb; rw [hsb]⟩
      have hcase := take26_cases ys
      rw [← hys] at hcase
      have HRW2 : Hid (∀ W sx B k, RLF w1 h A c xs sx u4 L W → BAt W W.heap.size B (takeV sj 26) → (takeV sj 26).length ≤ k → Calls Try.prog 45 #[.slice B (takeV sj 26).length k] W fun e w' => e = .returned (.tuple #[.agg (encC (rdK (takeV sj 26))).toArray, .int .i64 (rdE (takeV sj 26))]) ∧ RLF w1 h A c xs sx u4 L w') := by
        refine Lib.hid (fun W sx B k f hB hk => (rcread_any B k (takeV sj 26) W hB hk).mono ?_)
        rintro e w' ⟨rfl, hb⟩
        exact ⟨rfl, f.bel hb⟩
      have HTK : Hid (Calls Try.prog 48 #[.pointer (some ⟨h, 0, none⟩), .int .i64 26] wr fun e w' => ∃ B k, e = .returned (.slice B (takeV sj 26).length k) ∧ BAt w' w'.heap.size B (takeV sj 26) ∧ (takeV sj 26).length ≤ k ∧ RLF w1 h A c xs (takeS sj 26) u4 L w') := by
        refine Lib.hid ((rrtake_s hF.rd.rs 26 (by omega)).mono ?_)
        rintro e w' ⟨v, rfl, ho, hr, hg⟩
        obtain ⟨B, k, rfl, hk, hB⟩ := BsIs.of_own ho
        exact ⟨B, k, rfl, hB, hk, hF.read hr hg⟩
      obtain ⟨tl, htl⟩ : ∃ tl, tl = (takeV sj 26).length := ⟨_, rfl⟩
      rw [← htl] at HRW2 HTK
      rcases hcase with ⟨hE, hK, hS, hSb⟩ | ⟨hE, hK, hc⟩
      · rw [hE, hK] at HRW2
        rw [hS] at HTK
        obtain ⟨x, hx⟩ : ∃ x, x = nxC sj := ⟨_, rfl⟩
        rw [← hx] at HRW2 hI1
        have HNEW : Hid (∀ (W : World) (v : Value) (W' : World), RLF w1 h A c xs (nxS sj) u4 L W → W'.ownsRow w1.heap.size 73 22 v (L ++ [x]).length (flatE encC (L ++ [x])) → ((W.alloc (.cells (encC x).toArray 73)).alloc (.cells (encC x).toArray 73)).grownBy W' u4.ownBlock → RLF w1 h A c xs (nxI (j + 1) s1).2 v (nxI (j + 1) s1).1 W' ∧ (0 < N → (nxI (j + 1) s1).2.bad = false)) := by
          refine Lib.hid (fun W v W' f o hg => ?_)
          rw [hI1]
          have f2 := f.bel (((Below.refl _ W).alloc (Nat.le_refl _) (.cells (encC x).toArray 73)).alloc (by simp) (.cells (encC x).toArray 73))
          exact ⟨f2.app o hg, fun _ => hSb⟩
        have HOWN : Hid (∀ W, RLF w1 h A c xs (nxS sj) u4 L W → ((W.alloc (.cells (encC x).toArray 73)).alloc (.cells (encC x).toArray 73)).ownsRow w1.heap.size 73 22 u4 L.length (flatE encC L) ∧ w1.heap.size ≤ ((W.alloc (.cells (encC x).toArray 73)).alloc (.cells (encC x).toArray 73)).heap.size) := by
          refine Lib.hid (fun W f => ?_)
          have f2 := f.bel (((Below.refl _ W).alloc (Nat.le_refl _) (.cells (encC x).toArray 73)).alloc (by simp) (.cells (encC x).toArray 73))
          exact ⟨f2.own, f2.gr.size⟩
        have HLX : Hid (∀ W : World, (loadVar 73 ⟨W.heap.size, 0, none⟩).run Try.prog (W.alloc (.cells (encC x).toArray 73)) = .ok (.agg (encC x).toArray) (W.alloc (.cells (encC x).toArray 73))) := Lib.hid (fun W => load73 (row_range (heap_alloc_new W (.cells (encC x).toArray 73))))
        have HLE : Hid (L.length + [x].length ≤ 1000000) := Lib.hid (by rw [hIL]; simp; omega)
        clear hF HF HMISS hL hsj hIL hI1 hbd hsb hys htl hE hK hS hSb hx
        go_wp2_with (first
          | (go_at_call 48; (with_reducible refine HTK.out.mono ?_); rintro e2 w2 ⟨B2, k2, rfl, hB2, hk2, f2⟩)
          | (go_at_call 45; (with_reducible refine (HRW2.out _ _ _ _ f2 hB2 hk2).mono ?_); rintro e3 w3 ⟨rfl, f3⟩; have ho3 := HOWN.out _ f3)
          | (with_reducible refine wpList_alloc73a (o := ⟨some 6, _, _, _, _, _⟩) rfl 6 rfl rfl ?_)
          | ((with_reducible refine wpList_store73a (o := ⟨none, _, _, _, _, _⟩) rfl (.tmp 6) (.tmp 20) rfl default x ?_ ?_ ?_); rfl; rfl)
          | ((with_reducible refine wpList_loadV (op := ⟨some 27, _, _, _, _, _⟩) rfl 73 (.tmp 6) rfl _ ?_ _ (HLX.out _) ?_); rfl)
          | ((with_reducible refine wpList_build_oneC conR x (o := ⟨some 28, _, _, _, _, _⟩) rfl (.tmp 27) rfl ?_ ?_); rfl)
          | (refine wpList_append_con conR rfl (.tmp 26) (.tmp 28) rfl w1.heap.size _ L [x] rfl ho3.1 _ rfl (src_newC conR x _) HLE.out ho3.2 ?_; intro v5 w5 ho5 hg5))
        go_roundg (N - (j + 1))
        case measure => omega
        case rel =>
          obtain ⟨q1, q2⟩ := HNEW.out _ _ _ f3 ho5 hg5
          exact ⟨j + 1, by omega, Nat.le_refl _, by go_num, q1, q2⟩
      · rw [hE, hK] at HRW2
        obtain ⟨q1, q2⟩ := HMISS.out hc
        have HNEG : Hid (∀ W sx, RLF w1 h A c xs sx u4 L W → Calls Try.prog 48 #[.pointer (some ⟨h, 0, none⟩), .int .i64 (-1)] (W.alloc (.cells (encC default).toArray 73)) fun e w' => ∃ v, e = .returned v ∧ RrIs w h A c xs s (.returned (.slice none 0 0)) w') := by
          refine Lib.hid (fun W sx f => ?_)
          have f2 := f.bel ((Below.refl _ W).alloc (Nat.le_refl _) (.cells (encC default).toArray 73))
          refine (rrtake_s f2.rd.rs (-1) (by omega)).mono ?_
          rintro e w' ⟨v, rfl, _, hr, hg⟩
          rw [takeS_neg] at hr
          exact ⟨v, rfl, none, 0, by rw [q1]; rfl, by rw [q1]; exact .inl rfl, by rw [q2]; exact hr, grownBy_trans HG1.out (grownBy_trans f2.gr hg)⟩
        clear hF HF HMISS hL hsj hIL hI1 hbd hsb hys htl hE hK hc q1 q2
        go_wp2_with (first
          | (go_at_call 48; (with_reducible refine HTK.out.mono ?_); rintro e2 w2 ⟨B2, k2, rfl, hB2, hk2, f2⟩)
          | (go_at_call 45; (with_reducible refine (HRW2.out _ _ _ _ f2 hB2 hk2).mono ?_); rintro e3 w3 ⟨rfl, f3⟩)
          | (with_reducible refine wpList_alloc73a (o := ⟨some 6, _, _, _, _, _⟩) rfl 6 rfl rfl ?_)
          | ((with_reducible refine wpList_store73a (o := ⟨none, _, _, _, _, _⟩) rfl (.tmp 6) (.tmp 20) rfl default default ?_ ?_ ?_); rfl; rfl)
          | (go_at_call 48; (with_reducible refine (HNEG.out _ _ f3).mono ?_); rintro e4 w4 ⟨v4, rfl, hfin⟩))
        go_ret
        exact hfin
    · obtain rfl : j = N := by omega
      have hlt' : ¬ (j : Int) < (j : Int) := by omega
      obtain ⟨L, hL⟩ : ∃ L, L = (nxI j s1).1 := ⟨_, rfl⟩
      obtain ⟨sj, hsj⟩ : ∃ sj, sj = (nxI j s1).2 := ⟨_, rfl⟩
      rw [← hL, ← hsj] at hF
      have hLl : L.length = j := by rw [hL]; exact nxI_len j s1
      have hgood : rlG s = goodC (ctsC L) := by unfold rlG; rw [← HE.out.1, ← HE.out.2, ← hL]
      have hlS : rlG s = true → rlL s = L ∧ rlS s = sj := fun hg => by
        unfold rlL rlS
        rw [hg, ← HE.out.1, ← HE.out.2, ← hL, ← hsj]
        exact ⟨rfl, rfl⟩
      have hlN : rlG s = false → rlL s = [] ∧ rlS s = ⟨[], true⟩ := fun hg => by
        unfold rlL rlS
        rw [hg]
        exact ⟨rfl, rfl⟩
      obtain ⟨A3, c3, hv3, _, hA, _⟩ := own_formE hF.own
      have HI := Lib.hid (rgoodlist_any A3 c3 L wr (by omega) hA)
      subst hv3
      by_cases hgd : goodC (ctsC L) = true
      · rw [hgd] at HI
        have HFI : Hid (∀ w2, Below wr.heap.size wr w2 → RrIs w h A c xs s (.returned (.slice A3 L.length c3)) w2) := by
          refine Lib.hid (fun w2 hb2 => ?_)
          obtain ⟨q1, q2⟩ := hlS (hgood.trans hgd)
          exact ⟨A3, c3, by rw [q1], by rw [q1]; exact (hA.below hb2).more hb2.size, by rw [q2]; exact (hF.bel hb2).rd.rs, grownBy_trans HG1.out (hF.bel hb2).gr⟩
        clear hA hF hbd hL hsj hgood hlS hlN hgd hLl HE HS1B
        generalize L.length = nl at *
        go_wp2_with (first | (go_at_call 54; (with_reducible refine HI.out.mono ?_); rintro e2 w2 ⟨rfl, hb2⟩))
        go_ret
        exact HFI.out _ hb2
      · have hgd' : goodC (ctsC L) = false := by cases h : goodC (ctsC L) with | true => exact absurd h hgd | false => rfl
        rw [hgd'] at HI
        obtain ⟨q1, q2⟩ := hlN (hgood.trans hgd')
        have HNEG : Hid (∀ w2, Below wr.heap.size wr w2 → Calls Try.prog 48 #[.pointer (some ⟨h, 0, none⟩), .int .i64 (-1)] w2 fun e w' => ∃ v, e = .returned v ∧ RrIs w h A c xs s (.returned (.slice none 0 0)) w') := by
          refine Lib.hid (fun w2 hb2 => ?_)
          have f2 := hF.bel hb2
          refine (rrtake_s f2.rd.rs (-1) (by omega)).mono ?_
          rintro e w' ⟨v, rfl, _, hr, hg⟩
          rw [takeS_neg] at hr
          exact ⟨v, rfl, none, 0, by rw [q1]; rfl, by rw [q1]; exact .inl rfl, by rw [q2]; exact hr, grownBy_trans HG1.out (grownBy_trans f2.gr hg)⟩
        clear hA hF hbd hL hsj hgood hlS hlN hgd hgd' hLl HE HS1B q1 q2
        generalize L.length = nl at *
        go_wp2_with (first
          | (go_at_call 54; (with_reducible refine HI.out.mono ?_); rintro e2 w2 ⟨rfl, hb2⟩)
          | (go_at_call 48; (with_reducible refine (HNEG.out _ hb2).mono ?_); rintro e4 w4 ⟨v4, rfl, hfin⟩))
        go_ret
        exact hfin
end Go.Proofs.Ytbfhfnbhfeedbaa
end
