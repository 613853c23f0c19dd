/- Contract of next of package contact. Conditions: at most 900,000 bytes. Rows of contacts that grow: one is made, one is added. Conditions: at most 1,000,000 contacts. Contract of ReadList of package contact. Conditions: at most 900,000 bytes. -/
import Derived.Test.YtehgpnnfjgmiiaaGreatVOja
import Derived.Test.YtehgpnnfjgmiiaaGreatVObd
import Derived.Test.YtehgpnnfjgmiiaaGreatVIiv
import Derived.Test.YtehgpnnfjgmiiaaGreatVObc
import Derived.Test.YtehgpnnfjgmiiaaGreatVROcc
import Derived.Test.YtehgpnnfjgmiiaaGreatVRERefb
import Derived.Test.YtehgpnnfjgmiiaaGreatVRKCdk
import Derived.Test.YtehgpnnfjgmiiaaGreatVRIip
import Derived.Test.YtehgpnnfjgmiiaaGreatVREOctc
import Derived.Test.YtehgpnnfjgmiiaaGreatVWaa
section
namespace Go.Proofs.YtehgpnnfjgmiiaaGreat
set_option maxRecDepth 100000
open Go.Shelf Go.RowKit Go.Lib Go.Sort Go.Great
set_option maxRecDepth 1000000
set_option maxHeartbeats 2000000
theorem build60 (W : World) : (Instr.build 63 #[]).run Tryz.prog W = .ok (.agg (encC default).toArray) W := by kernel_rfl
theorem encC_all (c : Con) : (encC c).toArray.all (·.oneCell') = true := by
  rw [Array.all_eq_true_iff_forall_mem]
  intro v hv
  exact encC_one c v (by simpa using hv)
theorem size58 {h p : Nat} : (Tryz.prog.info? 61).map (·.size) = some (adr h p).size := by show _ = some 2; kernel_rfl
theorem adr_all (h p : Nat) : (adr h p).all (·.oneCell') = true := by unfold adr; simp [Value.oneCell']
/-- While next runs: r is the block of what is told, q that of the contact. -/
structure NXW (w : World) (g B r q : Nat) (s : St) (cq : List Value) (W : World) : Prop where
  rd : RdrB W g s B
  hr : W.heap[r]? = some (.cells (encC default).toArray 63 (0, 0))
  hq : W.heap[q]? = some (.cells cq.toArray 63 (0, 0))
  gr : w.grownBy W (some g)
  hg : g < w.heap.size
  hB : B ≤ w.heap.size
  rw : w.heap.size ≤ r
  qw : w.heap.size ≤ q
  rq : r ≠ q
section
variable {w W W' : World} {g B r q : Nat} {s s' : St} {cq cq' : List Value}
theorem NXW.lt (n : NXW w g B r q s cq W) : r < W.heap.size ∧ q < W.heap.size := ⟨(Array.getElem?_eq_some_iff.1 n.hr).1, (Array.getElem?_eq_some_iff.1 n.hq).1⟩
theorem NXW.bel (n : NXW w g B r q s cq W) (hb : Below W.heap.size W W') : NXW w g B r q s cq W' :=
  ⟨n.rd.below hb, (hb.block r n.lt.1).trans n.hr, (hb.block q n.lt.2).trans n.hq, grownBy_trans n.gr (grown_of_bel hb _), n.hg, n.hB, n.rw, n.qw, n.rq⟩
theorem NXW.read (n : NXW w g B r q s cq W) (h : RdrB W' g s' B) (hg : W.grownBy W' (some g)) : NXW w g B r q s' cq W' :=
  ⟨h, (hg.block r n.lt.1 (by intro e; injection e with e; have := n.hg; have := n.rw; omega)).trans n.hr, (hg.block q n.lt.2 (by intro e; injection e with e; have := n.hg; have := n.qw; omega)).trans n.hq, grownBy_trans n.gr hg, n.hg, n.hB, n.rw, n.qw, n.rq⟩
/-- The contact's block changes. -/
theorem NXW.put (n : NXW w g B r q s cq W) (hq : W'.heap[q]? = some (.cells cq'.toArray 63 (0, 0))) (hg : W.grownBy W' (some q)) : NXW w g B r q s cq' W' where
  rd := n.rd.keep (hg.block g n.rd.lt (by intro e; injection e with e; have := n.hg; have := n.qw; omega)) hg.size (fun i hi _ => hg.block i (by have := n.rd.lt; have := n.gr.size; have := n.hB; omega) (by intro e; injection e with e; have := n.hB; have := n.qw; omega))
  hr := (hg.block r n.lt.1 (by intro e; injection e with e; have := n.rq; omega)).trans n.hr
  hq := hq
  gr := ⟨hg.os.trans n.gr.os, hg.tape.trans n.gr.tape, hg.output.trans n.gr.output, Nat.le_trans n.gr.size hg.size, fun i hi hne => (hg.block i (Nat.lt_of_lt_of_le hi n.gr.size) (by intro e; injection e with e; have := n.qw; omega)).trans (n.gr.block i hi hne)⟩
  hg := n.hg
  hB := n.hB
  rw := n.rw
  qw := n.qw
  rq := n.rq
theorem NXW.take (n : NXW w g B r q s cq W) (k : Int) (hk : k ≤ 9223372036854775807) : Calls Tryz.prog 67 #[.pointer (some ⟨g, 0, none⟩), .int .i64 k] W fun e W' => ∃ A c, e = .returned (.slice A (takeV s k).length c) ∧ NXW w g B r q (takeS s k) cq W' ∧ BAt W' W'.heap.size A (takeV s k) := by
  refine (take_anyB n.rd k hk).mono ?_
  rintro e W' ⟨v, rfl, ho, hr, hg⟩
  obtain ⟨A, c, rfl, hA, _⟩ := own_bat ho
  exact ⟨A, c, rfl, n.read hr hg, hA⟩
end
/-- What next answers. -/
def NxIsN (w : World) (g B : Nat) (s : St) (e : Ending) (w' : World) : Prop := e = .returned (.agg (encC (nxC s)).toArray) ∧ RdrB w' g (nxS s) B ∧ w.grownBy w' (some g)
theorem next_any {w : World} {g B : Nat} {s : St} (h : RdrB w g s B) (hB : B ≤ w.heap.size) : Calls Tryz.prog 91 #[.pointer (some ⟨g, 0, none⟩)] w (NxIsN w g B s) := by
  obtain ⟨hr0, hq0, hb0⟩ := heap2 w (.cells (encC default).toArray 63) (.cells (encC default).toArray 63)
  have hs1 : (w.alloc (.cells (encC default).toArray 63)).heap.size = w.heap.size + 1 := by simp
  obtain ⟨W0, hW0⟩ : ∃ W0, W0 = (w.alloc (.cells (encC default).toArray 63)).alloc (.cells (encC default).toArray 63) := ⟨_, rfl⟩
  rw [← hW0] at hr0 hq0 hb0
  have n0 : NXW w g B w.heap.size (w.heap.size + 1) s (encC default) W0.drew := by
    have hbd : Below w.heap.size w W0.drew := hb0.drew
    exact ⟨h.below hbd, hr0, hq0, grown_of_bel hbd _, h.lt, hB, Nat.le_refl _, by omega, by omega⟩
  obtain ⟨q, hq⟩ : ∃ q, q = w.heap.size + 1 := ⟨_, rfl⟩
  rw [← hq] at n0
  have N0 := Lib.hid n0
  obtain ⟨V1, hV1⟩ : ∃ V, V = takeV s 20 := ⟨_, rfl⟩
  obtain ⟨V2, hV2⟩ : ∃ V, V = takeV (takeS s 20) 6 := ⟨_, rfl⟩
  have H1 : Hid (∀ W, NXW w g B w.heap.size q s (encC default) W → Calls Tryz.prog 67 #[.pointer (some ⟨g, 0, none⟩), .int .i64 20] W fun e W' => ∃ A c, e = .returned (.slice A V1.length c) ∧ NXW w g B w.heap.size q (takeS s 20) (encC default) W' ∧ BAt W' W'.heap.size A V1) := Lib.hid (fun W n => by rw [hV1]; exact n.take 20 (by omega))
  have HV1 : Hid ((bcells V1).length = Nat.min V1.length 20 ∧ ∀ (W' : World) (A : Option Addr), BAt W' W'.heap.size A V1 → 0 < (bcells V1).length → ∃ ad, A = some ad ∧ ∀ j v, (bcells V1)[j]? = some v → W'.cell? (ad.add j) = some v) := by
    refine Lib.hid ⟨?_, fun W' A hA hp => hA.cells hp⟩
    rw [bcells_length]
    have := takeV_len s 20
    rw [show ((20 : Nat) : Int) = 20 from rfl, ← hV1] at this
    rcases this with h | h
    · rw [h]; rfl
    · rw [h]; rfl
  have HV1L : Hid (0 + (bcells V1).length ≤ (encC default).length) := Lib.hid (by
    rw [bcells_length, encC_length]
    have := takeV_len s 20
    rw [show ((20 : Nat) : Int) = 20 from rfl, ← hV1] at this
    rcases this with h | h
    · rw [h]; omega
    · rw [h]; simp)
  obtain ⟨cq, hcq⟩ : ∃ cq, cq = splice (encC default) 0 (bcells V1) := ⟨_, rfl⟩
  have H3 : Hid (∀ w2 w3, NXW w g B w.heap.size q (takeS s 20) (encC default) w2 → w3.heap[q]? = some (.cells (splice (encC default) 0 (bcells V1)).toArray 63 (0, 0)) → w2.grownBy w3 (some q) → NXW w g B w.heap.size q (takeS s 20) cq w3) := Lib.hid (fun w2 w3 n hq hg => by rw [hcq]; exact n.put hq hg)
  have H4 : Hid (∀ W, NXW w g B w.heap.size q (takeS s 20) cq W → Calls Tryz.prog 67 #[.pointer (some ⟨g, 0, none⟩), .int .i64 6] W fun e W' => ∃ A c, e = .returned (.slice A V2.length c) ∧ NXW w g B w.heap.size q (nxS s) cq W' ∧ BAt W' W'.heap.size A V2) := Lib.hid (fun W n => by rw [hV2]; exact n.take 6 (by omega))
  have hl2 : V2.length ≤ 6 := by
    have := takeV_len (takeS s 20) 6
    rw [show ((6 : Nat) : Int) = 6 from rfl, ← hV2] at this
    rcases this with h | h
    · omega
    · rw [h]; simp
  have H5 : Hid (∀ W A c, NXW w g B w.heap.size q (nxS s) cq W → BAt W W.heap.size A V2 → Calls Tryz.prog 108 #[.slice A V2.length c] W fun e W' => e = .returned (readV V2) ∧ NXW w g B w.heap.size q (nxS s) cq W') := Lib.hid (fun W A c n hA => (read_any A c V2 (by omega) W hA).mono (by rintro e W' ⟨rfl, hb⟩; exact ⟨rfl, n.bel hb⟩))
  have H6 : Hid (∀ (W : World) (o : Obj), NXW w g B w.heap.size q (nxS s) cq W → NXW w g B w.heap.size q (nxS s) cq (W.alloc o)) := Lib.hid (fun W o n => n.bel ((Below.refl _ W).alloc (Nat.le_refl _) _))
  -- the end: the told block takes the contact
  have H9 : Hid (∀ (W : World) (c : Con) (cx : List Value), c = nxC s → NXW w g B w.heap.size q (nxS s) cx W → W.there w.heap.size 0 (encC c).toArray.size ∧ (W.setCells w.heap.size 0 (encC c)).rangeAt w.heap.size 0 (encC c) ∧ NxIsN w g B s (.returned (.agg (encC c).toArray)) (W.setCells w.heap.size 0 (encC c))) := by
    refine Lib.hid (fun W c cx hc n => ?_)
    have ht : W.there w.heap.size 0 (encC c).length := by
      have := row_there n.hr
      rw [encC_length] at this
      rw [encC_length]
      exact this
    refine ⟨by rw [List.size_toArray]; exact ht, World.rangeAt_setCells_same W w.heap.size 0 (encC c) ht, by rw [hc], ?_, ?_⟩
    · have hgc : W.grownBy (W.setCells w.heap.size 0 (encC c)) (some w.heap.size) := grown_cells (encC c) 0 W (World.grownBy.refl W _)
      exact n.rd.keep (hgc.block g n.rd.lt (by intro e; injection e with e; have := n.hg; omega)) hgc.size (fun i hi _ => hgc.block i (by have := n.gr.size; have := n.hB; omega) (by intro e; injection e with e; have := n.hB; omega))
    · have hgc : W.grownBy (W.setCells w.heap.size 0 (encC c)) (some w.heap.size) := grown_cells (encC c) 0 W (World.grownBy.refl W _)
      exact ⟨hgc.os.trans n.gr.os, hgc.tape.trans n.gr.tape, hgc.output.trans n.gr.output, Nat.le_trans n.gr.size hgc.size, fun i hi hne => (hgc.block i (Nat.lt_of_lt_of_le hi n.gr.size) (by intro e; injection e with e; omega)).trans (n.gr.block i hi hne)⟩
  have HBU := Lib.hid (fun W => build60 W)
  have HW := Lib.hid hW0
  have HQ := Lib.hid hq
  have HS1 := Lib.hid hs1
  by_cases hok : nxOk s
  · obtain ⟨ho, hho⟩ : ∃ n, n = getN (V2.take 4) := ⟨_, rfl⟩
    obtain ⟨po, hpo⟩ : ∃ n, n = getN ((V2.drop 4).take 2) := ⟨_, rfl⟩
    have hok2 := hok
    unfold nxOk at hok2
    rw [← hV1, ← hV2] at hok2
    have hrv : readV V2 = .tuple #[.agg #[.int .u32 (ho : Int), .int .u16 (po : Int)], .int .i64 0] := by
      unfold readV
      rw [if_pos hok2.2, ← hho, ← hpo]
      rfl
    have henc : encC (nxC s) = bcells V1 ++ [.int .u32 (ho : Int), .int .u16 (po : Int)] := by
      unfold nxC
      rw [dif_pos hok]
      unfold encC
      simp only
      rw [← hV1, ← hV2, ← hho, ← hpo]
    have H7 : Hid (∀ W, NXW w g B w.heap.size q (nxS s) cq W → W.there q 20 (adr ho po).size ∧ NXW w g B w.heap.size q (nxS s) (encC (nxC s)) (W.setCells q 20 (adr ho po).toList)) := by
      refine Lib.hid (fun W n => ?_)
      have hcl : cq = bcells V1 ++ [.int .u32 0, .int .u16 0] := by
        rw [hcq]
        unfold splice
        rw [List.take_zero, List.nil_append, bcells_length, hok2.1]
        rfl
      have hlen : cq.length = 22 := by rw [hcl, List.length_append, bcells_length, hok2.1]; rfl
      have hth := row_there n.hq
      rw [hlen] at hth
      refine ⟨fun j hj => ?_, ?_⟩
      · have hj2 : j < 2 := hj
        have := hth (20 + j) (by omega)
        rwa [Nat.zero_add] at this
      · refine n.put ?_ (grown_cells _ _ _ (World.grownBy.refl W _))
        have := heap_setCells_row q 63 [.int .u32 (ho : Int), .int .u16 (po : Int)] 20 cq W n.hq (by rw [hlen]; simp)
        show (W.setCells q 20 [.int .u32 (ho : Int), .int .u16 (po : Int)]).heap[q]? = _
        rw [this, henc]
        refine congrArg (fun l : List Value => some (Obj.cells l.toArray 63 (0, 0))) ?_
        rw [List.drop_of_length_le (by rw [hlen]; simp), List.append_nil, hcl, List.take_append_of_le_length (by rw [bcells_length, hok2.1]; omega), List.take_of_length_le (by rw [bcells_length, hok2.1]; omega)]
    have hob : (ho : Int) < 4294967296 := by have := getN_lt' (V2.take 4) 4 (by rw [List.length_take]; omega); rw [hho]; omega
    have hpb : (po : Int) < 65536 := by have := getN_lt' ((V2.drop 4).take 2) 2 (by rw [List.length_take]; omega); rw [hpo]; omega
    rw [hrv] at H5
    clear hr0 hq0 hb0 n0 hW0 hV1 hV2 hcq hok hok2 hrv h hq hs1 hl2 henc hho hpo
    go_enter Tryz.func91, Tryz.ntmps91
    go_upto_region 2 with (first
      | (with_reducible refine wpList_alloc60 (o := ⟨some 2, _, _, _, _, _⟩) rfl 2 rfl rfl ?_)
      | (with_reducible refine wpList_alloc60 (o := ⟨some 3, _, _, _, _, _⟩) rfl 3 rfl rfl ?_))
    (try rw [HS1.out])
    (try rw [← HQ.out])
    rw [← HW.out]
    clear HW
    refine wp_region_noPanic ?_
    refine wp_region_held_drew (S := fun _ => True) (by kernel_rfl) trivial (fun hHeld => ?_)
    refine takeH_at 0 6 (v := ?_) rfl rfl (by kernel_rfl) (by kernel_rfl) (by kernel_rfl) (fun _ _ _ h => h) (Or.inl ⟨by rfl, ?_⟩) (by trivial) ?_
    rotate_left
    · (intro wx hSw; (try dsimp only at hSw); go_simp) <;> with_reducible rfl
    simp only [Act.put, List.setIfInBounds_toArray, List.set_cons_zero, List.set_cons_succ]
    refine takeH_at 1 7 (v := ?_) rfl rfl (by kernel_rfl) (by kernel_rfl) (by kernel_rfl) (fun _ _ _ h => h) (Or.inl ⟨by rfl, ?_⟩) (by trivial) ?_
    rotate_left
    · (intro wx hSw; (try dsimp only at hSw); go_simp) <;> with_reducible rfl
    simp only [Act.put, List.setIfInBounds_toArray, List.set_cons_zero, List.set_cons_succ]
    refine takeH_at 2 8 (v := ?_) rfl rfl (by kernel_rfl) (by kernel_rfl) (by kernel_rfl) (fun _ _ _ h => h) (Or.inl ⟨by rfl, ?_⟩) (by trivial) ?_
    rotate_left
    · (intro wx hSw; (try dsimp only at hSw); go_simp) <;> with_reducible rfl
    simp only [Act.put, List.setIfInBounds_toArray, List.set_cons_zero, List.set_cons_succ]
    refine wpAnyH_ready (rs := [3]) (by kernel_rfl) (by simp) ?_
    refine AllReadyH.cons rfl (fun K hK => ?_) ?_
    · go_simp
      go_wp2_with (go_at_call 67; (with_reducible refine (H1.out _ N0.out).mono ?_); rintro e2 w2 ⟨A2, c2, rfl, n2, hA2⟩)
      refine hK.out _ _ (by trivial) (fun hHeld => ?_)
      clear hK K
      refine wpAnyH_ready (rs := [4]) (by kernel_rfl) (by simp) ?_
      refine AllReadyH.cons rfl (fun K hK => ?_) ?_
      · refine step_copy_row rfl 10 rfl (.tmp 7) (.tmp 9) 31 31 rfl 5 Tryz.underlying31 size5c (some ⟨q, 0, none⟩) _ 20 20 V1.length c2 rfl rfl q 0 (encC default) 63 n2.hq (bcells V1) (HV1.out.1) (fun hp => ⟨rfl, HV1.out.2 _ _ hA2 hp⟩) HV1L.out (bcells_oneC _) ?_
        intro w3 hq3 hg3
        refine hK.out _ _ (by trivial) (fun hHeld => ?_)
        clear hK K
        refine wpAnyH_done (by kernel_rfl) ?_ _
        refine NoPanic.normal ?_
        simp only [Act.put, List.setIfInBounds_toArray, List.set_cons_zero, List.set_cons_succ]
        have n3 := H3.out _ _ n2 hq3 hg3
        clear n2 hq3 hg3 H1 H3 N0 HV1 HV1L hA2
        go_upto_region 6 with (first
          | (go_at_call 67; (with_reducible refine (H4.out _ n3).mono ?_); rintro e4 w4 ⟨A4, c4, rfl, n4, hA4⟩)
          | (go_at_call 108; (with_reducible refine (H5.out _ _ _ n4 hA4).mono ?_); rintro e5 w5 ⟨rfl, n5⟩))
        have n6 := H6.out _ (.cells #[.int .u32 (ho : Int), .int .u16 (po : Int)] 61) n5
        have HLD4 := Lib.hid (load58 (row_range (cs := [.int .u32 (ho : Int), .int .u16 (po : Int)]) (heap_alloc_new w5 (.cells #[.int .u32 (ho : Int), .int .u16 (po : Int)] 61))))
        generalize w5.alloc (.cells #[.int .u32 (ho : Int), .int .u16 (po : Int)] 61) = W6 at n6 HLD4 ⊢
        generalize w5.heap.size = b5 at HLD4 ⊢
        obtain ⟨h71, n7⟩ := H7.out _ n6
        obtain ⟨h91, h92, h93⟩ := H9.out _ _ _ rfl n7
        have HLD7 := Lib.hid (load60 (row_range n7.hq))
        have H71 := Lib.hid h71
        have H91 := Lib.hid h91
        have H92 := Lib.hid h92
        have H93 := Lib.hid h93
        have HSZ8 : Hid ((Tryz.prog.info? 63).map (·.size) = some (encC (nxC s)).toArray.size) := Lib.hid (by rw [List.size_toArray, encC_length]; exact size60)
        have HAL8 := Lib.hid (encC_all (nxC s))
        have HSZ9 : Hid ((Tryz.prog.info? 63).map (·.size) = some (encC (nxC s)).length) := Lib.hid (by rw [encC_length]; exact size60)
        clear h71 n7 h91 h92 h93 n6 n5 n4 n3 hA4 H4 H5 H6 H7 H9
        generalize encC (nxC s) = EC at *
        generalize hW8 : (W6.setCells q 20 (adr ho po).toList) = W7 at *
        go_wp2_with (first
          | ((with_reducible refine wpList_loadV (op := ⟨some 20, _, _, _, _, _⟩) rfl 61 (.tmp 4) rfl ⟨b5, 0, none⟩ ?_ _ HLD4.out ?_); rfl)
          | ((with_reducible refine wpList_store_mid (op := ⟨none, _, _, _, _, _⟩) rfl 61 (.tmp 21) (.tmp 20) rfl q 20 (adr ho po) ?_ ?_ H71.out size58 (adr_all ho po) ?_); rfl; rfl; rw [hW8])
          | ((with_reducible refine wpList_loadV (op := ⟨some 22, _, _, _, _, _⟩) rfl 63 (.tmp 3) rfl ⟨q, 0, none⟩ ?_ _ HLD7.out ?_); rfl)
          | ((with_reducible refine wpList_store_mid (op := ⟨none, _, _, _, _, _⟩) rfl 63 (.tmp 2) (.tmp 22) rfl w.heap.size 0 EC.toArray ?_ ?_ H91.out HSZ8.out HAL8.out ?_); rfl; rfl))
        refine bodyPost_ret (v := .agg EC.toArray) ?_ rfl ?_
        · exact results_cell1 (p := 2) (ty := 63) rfl _ _ w.heap.size 0 EC _ rfl H92.out Tryz.underlying63 rfl HSZ9.out
        · exact H93.out
      exact AllReadyH.nil
    exact AllReadyH.nil
  · have hrv : readV V2 = .tuple #[.agg #[.int .u32 0, .int .u16 0], .int .i64 10] := by
      unfold readV
      rw [if_neg]
      · rfl
      · intro h6
        apply hok
        unfold nxOk
        rw [← hV2]
        refine ⟨?_, h6⟩
        have := takeV_len s 20
        rw [show ((20 : Nat) : Int) = 20 from rfl] at this
        rcases this with h | h
        · exact h
        · exfalso
          have h20 : ¬ takeOk s 20 := by
            intro hk
            unfold takeV at h
            rw [if_pos hk] at h
            have h1 := hk.2.2
            have := congrArg List.length h
            rw [List.length_take, List.length_nil] at this
            simp only [show (20 : Int).toNat = 20 from rfl] at this
            omega
          have hs2 : takeS s 20 = ⟨[], true⟩ := by unfold takeS; rw [if_neg h20]
          have : V2 = [] := by
            rw [hV2, hs2]
            unfold takeV
            rw [if_neg (by intro hk; exact absurd hk.1 (by simp))]
          rw [this] at h6
          simp at h6
    have HNC : Hid (default = nxC s) := Lib.hid (by unfold nxC; rw [dif_neg hok])
    rw [hrv] at H5
    clear hr0 hq0 hb0 n0 hW0 hV1 hV2 hcq hok hrv h hq hs1 hl2
    go_enter Tryz.func91, Tryz.ntmps91
    go_upto_region 2 with (first
      | (with_reducible refine wpList_alloc60 (o := ⟨some 2, _, _, _, _, _⟩) rfl 2 rfl rfl ?_)
      | (with_reducible refine wpList_alloc60 (o := ⟨some 3, _, _, _, _, _⟩) rfl 3 rfl rfl ?_))
    (try rw [HS1.out])
    (try rw [← HQ.out])
    rw [← HW.out]
    clear HW
    refine wp_region_noPanic ?_
    refine wp_region_held_drew (S := fun _ => True) (by kernel_rfl) trivial (fun hHeld => ?_)
    refine takeH_at 0 6 (v := ?_) rfl rfl (by kernel_rfl) (by kernel_rfl) (by kernel_rfl) (fun _ _ _ h => h) (Or.inl ⟨by rfl, ?_⟩) (by trivial) ?_
    rotate_left
    · (intro wx hSw; (try dsimp only at hSw); go_simp) <;> with_reducible rfl
    simp only [Act.put, List.setIfInBounds_toArray, List.set_cons_zero, List.set_cons_succ]
    refine takeH_at 1 7 (v := ?_) rfl rfl (by kernel_rfl) (by kernel_rfl) (by kernel_rfl) (fun _ _ _ h => h) (Or.inl ⟨by rfl, ?_⟩) (by trivial) ?_
    rotate_left
    · (intro wx hSw; (try dsimp only at hSw); go_simp) <;> with_reducible rfl
    simp only [Act.put, List.setIfInBounds_toArray, List.set_cons_zero, List.set_cons_succ]
    refine takeH_at 2 8 (v := ?_) rfl rfl (by kernel_rfl) (by kernel_rfl) (by kernel_rfl) (fun _ _ _ h => h) (Or.inl ⟨by rfl, ?_⟩) (by trivial) ?_
    rotate_left
    · (intro wx hSw; (try dsimp only at hSw); go_simp) <;> with_reducible rfl
    simp only [Act.put, List.setIfInBounds_toArray, List.set_cons_zero, List.set_cons_succ]
    refine wpAnyH_ready (rs := [3]) (by kernel_rfl) (by simp) ?_
    refine AllReadyH.cons rfl (fun K hK => ?_) ?_
    · go_simp
      go_wp2_with (go_at_call 67; (with_reducible refine (H1.out _ N0.out).mono ?_); rintro e2 w2 ⟨A2, c2, rfl, n2, hA2⟩)
      refine hK.out _ _ (by trivial) (fun hHeld => ?_)
      clear hK K
      refine wpAnyH_ready (rs := [4]) (by kernel_rfl) (by simp) ?_
      refine AllReadyH.cons rfl (fun K hK => ?_) ?_
      · refine step_copy_row rfl 10 rfl (.tmp 7) (.tmp 9) 31 31 rfl 5 Tryz.underlying31 size5c (some ⟨q, 0, none⟩) _ 20 20 V1.length c2 rfl rfl q 0 (encC default) 63 n2.hq (bcells V1) (HV1.out.1) (fun hp => ⟨rfl, HV1.out.2 _ _ hA2 hp⟩) HV1L.out (bcells_oneC _) ?_
        intro w3 hq3 hg3
        refine hK.out _ _ (by trivial) (fun hHeld => ?_)
        clear hK K
        refine wpAnyH_done (by kernel_rfl) ?_ _
        refine NoPanic.normal ?_
        simp only [Act.put, List.setIfInBounds_toArray, List.set_cons_zero, List.set_cons_succ]
        have n3 := H3.out _ _ n2 hq3 hg3
        clear n2 hq3 hg3 H1 H3 N0 HV1 HV1L hA2
        go_wp2_with (first
          | (go_at_call 67; (with_reducible refine (H4.out _ n3).mono ?_); rintro e4 w4 ⟨A4, c4, rfl, n4, hA4⟩)
          | (go_at_call 108; (with_reducible refine (H5.out _ _ _ n4 hA4).mono ?_); rintro e5 w5 ⟨rfl, n5⟩)
          | ((with_reducible refine wpList_buildV (o := ⟨some 19, _, _, _, _, _⟩) rfl 63 #[] rfl #[] ?_ _ (HBU.out _) ?_); rfl)
          | ((with_reducible refine wpList_store_mid (op := ⟨none, _, _, _, _, _⟩) rfl 63 (.tmp 2) (.tmp 19) rfl w.heap.size 0 (encC default).toArray ?_ ?_ (H9.out _ _ _ HNC.out (H6.out _ _ n5)).1 ?_ ?_ ?_); rfl; rfl; kernel_rfl; exact encC_all default))
        refine bodyPost_ret (v := .agg (encC default).toArray) ?_ rfl ?_
        · exact results_cell1 (p := 2) (ty := 63) rfl _ _ w.heap.size 0 (encC default) _ rfl (H9.out _ _ _ HNC.out (H6.out _ _ n5)).2.1 Tryz.underlying63 rfl (by rw [encC_length]; exact size60)
        · exact (H9.out _ _ _ HNC.out (H6.out _ _ n5)).2.2
      exact AllReadyH.nil
    exact AllReadyH.nil
end Go.Proofs.YtehgpnnfjgmiiaaGreat
end
section
namespace Go.Proofs.YtehgpnnfjgmiiaaGreat
open Go.Shelf Go.RowKit Go.Lib Go.Sort Go.Great
set_option maxRecDepth 100000
set_option maxHeartbeats 1000000
/-- t is a slice of e, a contact's type. -/
structure ConT (t e : TypeId) : Prop where
  und : Tryz.prog.underlying t = some (.slice e)
  inf : (Tryz.prog.info? e).map (fun i => (i.zero, i.size, i.bytes)) = some (some (.agg (encC default).toArray), 22, 28)
theorem ConT.info {t e : TypeId} (h : ConT t e) : ∃ i0, Tryz.prog.info? e = some i0 ∧ i0.zero = some (.agg (encC default).toArray) ∧ i0.size = 22 ∧ i0.bytes = 28 := by
  have h := h.inf
  cases hi : Tryz.prog.info? e with
  | none => rw [hi] at h; cases h
  | some i =>
    rw [hi] at h
    simp only [Option.map_some, Option.some.injEq, Prod.mk.injEq] at h
    exact ⟨i, rfl, h.1, h.2.1, h.2.2⟩
theorem conP : ConT 25 63 := ⟨Tryz.underlying25, by kernel_rfl⟩
theorem conR : ConT 53 90 := ⟨Tryz.underlying53, by kernel_rfl⟩
theorem fold_setC (k : Nat) (l : List Value) (n : Nat) (A : Array Value) (h : n + l.length ≤ A.size) :
    ((l.zipIdx n).foldl (fun (cs : Array Value) (p : Value × Nat) => cs.setIfInBounds (0 * k + p.2) p.1) A).toList = A.toList.take n ++ l ++ A.toList.drop (n + l.length) := by
  induction l generalizing n A with
  | nil => simp
  | cons c l ih =>
    rw [List.zipIdx_cons, List.foldl_cons, ih]
    · simp only [Nat.zero_mul, Nat.zero_add, Array.toList_setIfInBounds, List.length_cons]
      simp only [List.length_cons] at h
      apply List.ext_getElem?
      intro j
      simp only [List.append_assoc]
      by_cases h1 : j < n
      · rw [List.getElem?_append_left (by simp; omega), List.getElem?_append_left (by simp; omega)]
        simp [List.getElem?_take, h1, show j < n + 1 by omega, List.getElem?_set, show n ≠ j by omega]
      · by_cases h2 : j = n
        · subst h2
          rw [List.getElem?_append_left (by simp; omega), List.getElem?_append_right (by simp; omega)]
          simp [List.getElem?_take, List.getElem?_set, show min j A.size = j by omega, show j < A.size by omega]
        · obtain ⟨q, rfl⟩ : ∃ q, j = n + 1 + q := ⟨j - (n + 1), by omega⟩
          have hm1 : min (n + 1) A.size = n + 1 := by omega
          have hm2 : min n A.size = n := by omega
          rw [List.getElem?_append_right (by rw [List.length_take, List.length_set, Array.length_toList, hm1]; omega), List.getElem?_append_right (l₁ := List.take n A.toList) (by rw [List.length_take, Array.length_toList, hm2]; omega)]
          simp only [List.length_take, List.length_set, Array.length_toList, hm1, hm2]
          rw [show n + 1 + q - (n + 1) = q by omega, show n + 1 + q - n = q + 1 by omega, List.cons_append, List.getElem?_cons_succ]
          by_cases h3 : q < l.length
          · rw [List.getElem?_append_left h3, List.getElem?_append_left h3]
          · rw [List.getElem?_append_right (by omega), List.getElem?_append_right (by omega), List.getElem?_drop, List.getElem?_drop, List.getElem?_set_ne (by omega)]
            congr 1
            omega
    · simp only [List.length_cons] at h
      simp only [Array.size_setIfInBounds]
      omega

/-- A new row of one contact. -/
theorem run_build_oneC {t e : TypeId} (hT : ConT t e) (x : Con) (w : World) : (Instr.buildSlice t 1 #[(0, .agg (encC x).toArray)]).run Tryz.prog w = .ok (.slice (some ⟨w.heap.size, 0, none⟩) 1 1) (w.alloc (.cells (encC x).toArray e)) := by
  obtain ⟨i0, hi, hz0, hz1, hz2⟩ := hT.info
  obtain ⟨Z, hZ⟩ : ∃ Z, Z = (encC default).toArray := ⟨_, rfl⟩
  rw [← hZ] at hz0
  clear hZ
  have hf := fold_setC 22 (encC x) 0 ((Array.range 22).map (Z[· % Z.size]!)) (by rw [encC_length]; simp)
  have hl := encC_length x
  have hA : (List.foldl (fun (cs : Array Value) (p : Value × Nat) => cs.setIfInBounds (0 * 22 + p.2) p.1) ((Array.range 22).map (Z[· % Z.size]!)) (encC x).zipIdx) = (encC x).toArray := by
    apply Array.ext'
    rw [hf]
    simp only [List.take_zero, List.nil_append, Nat.zero_add, hl]
    rw [List.drop_eq_nil_of_le (by simp)]
    simp
  simp only [Nat.zero_mul, Nat.zero_add] at hA
  generalize encC x = cs at hA hl ⊢
  simp [Instr.buildSlice, run_underlying hT.und, sizeOf, typeInfo, zeroValue, hi, hz0, hz1, Value.cells, Instr.fill, hl, newRow]
  rw [hA]
theorem src_newC {t e : TypeId} (hT : ConT t e) (x : Con) (w : World) : Src Tryz.prog 22 t (.slice (some ⟨w.heap.size, 0, none⟩) 1 1) 1 (flatE encC [x]) (w.alloc (.cells (encC x).toArray e)) := by
  refine Src.ofSlice _ hT.und _ 1 1 (flatE encC [x]) (by rw [flatE_length encC_length]; rfl) (fun j u hu => ?_) (flatE_oneN _)
  rw [Addr.add_mid]
  have e1 : flatE encC [x] = encC x := by unfold flatE; simp
  rw [e1] at hu
  exact row_range (heap_alloc_new w (.cells (encC x).toArray e)) j u hu
theorem wp_build_oneC {t e : TypeId} (hT : ConT t e) (x : Con) {w : World} {o : Oper} {a : Act} {K : Act → World → Prop} {Q : Exit → Act → World → Prop} (y : Operand) (ho : o.op = .buildSlice t 1 #[(0, y)]) (hy : a.eval y = .agg (encC x).toArray)
    (h : K (a.put o.dst (.slice (some ⟨w.heap.size, 0, none⟩) 1 1)) (w.alloc (.cells (encC x).toArray e))) : o.wp Tryz.prog a w K Q := by
  unfold Oper.wp execOp
  simp only [ho, List.map_toArray, List.map_cons, List.map_nil, hy, Sem.run_bind, run_build_oneC hT, Result.andThen_ok, Sem.run_pure]
  exact h
theorem wpList_build_oneC {t e : TypeId} (hT : ConT t e) (x : Con) {w : World} {ops : Array Oper} {rest : List Oper} {o : Oper} {a : Act} {Q : Exit → Act → World → Prop} (hgd : o.guard = none) (y : Operand) (ho : o.op = .buildSlice t 1 #[(0, y)]) (hy : a.eval y = .agg (encC x).toArray)
    (h : wpList Tryz.prog ops Q rest (a.put o.dst (.slice (some ⟨w.heap.size, 0, none⟩) 1 1)) (w.alloc (.cells (encC x).toArray e))) : wpList Tryz.prog ops Q (o :: rest) a w :=
  wpList_plain hgd fun _ hK => wp_build_oneC hT x y ho hy (hK _ _ h)
theorem wpList_append_con {t e : TypeId} (hT : ConT t e) {w : World} {ops : Array Oper} {rest : List Oper} {o : Oper} {a : Act} {Q : Exit → Act → World → Prop} (hgd : o.guard = none) (s x : Operand)
    (ho : o.op = .call { callee := .builtin .append, args := #[s, x], argTypes := #[t, t] })
    (base : Nat) (v : Value) (L M : List Con) (hs : a.eval s = v) (hown : w.ownsRow base e 22 v L.length (flatE encC L))
    (y : Value) (hx : a.eval x = y) (hr : Src Tryz.prog 22 t y M.length (flatE encC M) w) (h63 : L.length + M.length ≤ 1000000) (hbase : base ≤ w.heap.size)
    (h : ∀ v' w', w'.ownsRow base e 22 v' (L ++ M).length (flatE encC (L ++ M)) → w.grownBy w' v.ownBlock → wpList Tryz.prog ops Q rest (a.put o.dst v') w') : wpList Tryz.prog ops Q (o :: rest) a w :=
  wpList_plain hgd fun _ hK => by
    obtain ⟨i0, hi, hz0, hz1, hz2⟩ := hT.info
    obtain ⟨v', w', hrun, h2, h3, _⟩ := run_append_srcK w base t t o.type e i0 _ 22 28 hT.und hi hz0 hz1 hz2 (by simp [Value.cells, encC_length]) v L.length (flatE encC L) hown y M.length (flatE encC M) hr (by simp only [maxLen]; omega) (by omega) hbase
    unfold Oper.wp execOp
    simp only [ho, resolve, invoke, builtin, Sem.run_bind, Sem.run_pure, Result.andThen_ok, List.map_toArray, List.map_cons, List.map_nil, hs, hx, hrun]
    have e1 : flatE encC L ++ flatE encC M = flatE encC (L ++ M) := by unfold flatE; rw [List.flatMap_append]
    rw [e1, ← List.length_append] at h2
    exact hK _ _ (h v' w' h2 h3)
end Go.Proofs.YtehgpnnfjgmiiaaGreat
end
section
namespace Go.Proofs.YtehgpnnfjgmiiaaGreat
open Go.Shelf Go.RowKit Go.Lib Go.Sort Go.Great
set_option maxRecDepth 100000
set_option maxHeartbeats 1000000
/-- n contacts, read one behind the other. -/
def nxI : Nat → St → List Con × St
  | 0, s => ([], s)
  | n + 1, s => ((nxI n s).1 ++ [nxC (nxI n s).2], nxS (nxI n s).2)
theorem nxI_len (n : Nat) (s : St) : (nxI n s).1.length = n := by
  induction n with
  | zero => rfl
  | succ n ih => rw [nxI, List.length_append, ih]; rfl
/-- What ReadList tells, and leaves. -/
def rlG (s : St) : Bool := goodC (ctsC (nxI (numV s 1) (numS s 1)).1)
def rlL (s : St) : List Con := if rlG s then (nxI (numV s 1) (numS s 1)).1 else []
def rlS (s : St) : St := if rlG s then (nxI (numV s 1) (numS s 1)).2 else ⟨[], true⟩
def RlIs (w : World) (g : Nat) (s : St) (e : Ending) (w' : World) : Prop :=
  ∃ A c, e = .returned (.slice A (rlL s).length c) ∧ CAt w' w'.heap.size A (rlL s) ∧ (A = none ∨ ∃ g off, A = some ⟨g, off, none⟩) ∧ RdrS w' g (rlS s) ∧ w.grownBy w' (some g)
end Go.Proofs.YtehgpnnfjgmiiaaGreat
end
