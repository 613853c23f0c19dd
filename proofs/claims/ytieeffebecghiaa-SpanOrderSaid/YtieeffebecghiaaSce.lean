/- Contracts of Draw and Nearer of package span. Conditions: an id has 20 bytes. -/
import Derived.Test.YtieeffebecghiaaScd
namespace Go.Proofs.Ytieeffebecghiaa
set_option maxRecDepth 100000
set_option maxHeartbeats 1000000
open Go.RowKit Go.Lib Go.Great

theorem draw_any (o s : List UInt8) (i : Int) (A : Option Addr) (c : Nat) (ho : o.length = 20) (w : World) (hs : BAt w w.heap.size A s) :
    Calls Try.prog 13 #[.agg (bcells o).toArray, .int .i64 i, .slice A s.length c] w fun e w' => LdIs o (seedL s) i e ∧ Below w.heap.size w w' := by
  have HLD := Lib.hid (fun (W : World) (h : W.heap[w.heap.size + 1 + 1]? = some (.cells (bcells (seedL s)).toArray 23 (0, 0))) => (inBucket_any o ho i 28 _ _ W (draw_bits W.heap.size W (seedL s) (seedL_length s) (w.heap.size + 1 + 1) (Array.getElem?_eq_some_iff.1 h).1 h)).mono (R' := fun e w' => LdIs o (seedL s) i e ∧ Below W.heap.size W w') (by rintro e w' ⟨h, h'⟩; exact ⟨h.ld (fun m _ => rfl), h'⟩))
  have hz1 := fun W => zero26 W
  have hmf : ∀ (fn : Fn) (first cap : Array Value) (w : World), (Instr.makeFunc fn first cap).run Try.prog w = .ok (.func fn first cap) w := fun _ _ _ _ => rfl
  have HZS : Hid ((bcells (List.replicate 20 0)).toArray.size = 20) := Lib.hid (bc_size (by simp))
  obtain ⟨h1, h2, h3, hb⟩ := heap3 w (.cells (bcells o).toArray 23) (.cells (bcells (List.replicate 20 0)).toArray 23) (.cells (bcells (List.replicate 20 0)).toArray 23)
  obtain ⟨W0, hW0⟩ : ∃ W0, W0 = ((w.alloc (.cells (bcells o).toArray 23)).alloc (.cells (bcells (List.replicate 20 0)).toArray 23)).alloc (.cells (bcells (List.replicate 20 0)).toArray 23) := ⟨_, rfl⟩
  rw [← hW0] at h1 h2 h3 hb
  have HW := Lib.hid hW0
  have HO : Hid (o.length = 20) := Lib.hid ho
  have H1 := Lib.hid h1
  have H2 := Lib.hid h2
  have H3 := Lib.hid h3
  have HB0 := Lib.hid hb
  have hlen : (bcells (s.take 20)).length = Nat.min s.length 20 := by rw [bcells_length, List.length_take]; exact Nat.min_comm _ _
  have HN := Lib.hid hlen
  have HP : Hid (0 < (bcells (s.take 20)).length → (some ⟨w.heap.size + 1 + 1, 0, none⟩ : Option Addr) = some ⟨w.heap.size + 1 + 1, 0, none⟩ ∧ ∃ ad, A = some ad ∧ ∀ j v, (bcells (s.take 20))[j]? = some v → W0.cell? (ad.add j) = some v) := Lib.hid (fun h0 => ⟨rfl, by
    rcases hs with rfl | ⟨g, off, rfl, hg, hc⟩
    · simp [bcells] at h0
    · refine ⟨_, rfl, fun j v hv => ?_⟩
      have hj : j < s.length := by
        have := (List.getElem?_eq_some_iff.1 hv).1
        rw [bcells_length, List.length_take] at this
        omega
      rw [Addr.add_mid, World.cell?_of_block (w := w) (w' := W0) (a := ⟨g, off + j, none⟩) (hb.block g hg), hc j hj]
      have : (bcells (s.take 20))[j]? = some (.int .u8 (s[j].toNat : Int)) := by
        have hj2 : j < (s.take 20).length := by
          have := (List.getElem?_eq_some_iff.1 hv).1
          rwa [bcells_length] at this
        simp only [bcells, List.getElem?_map, List.getElem?_eq_getElem hj2, List.getElem_take, Option.map_some]
      rw [this] at hv
      exact hv⟩)
  have HF : Hid (0 + (bcells (s.take 20)).length ≤ (bcells (List.replicate 20 0)).length) := Lib.hid (by rw [bcells_length, bcells_length, List.length_take, List.length_replicate]; omega)
  have H1C : Hid (∀ v ∈ bcells (s.take 20), v.oneCell' = true) := Lib.hid (bcells_one _)
  have HSP := Lib.hid (seed_splice s)
  have HI5 : Hid ((Try.prog.info? 5).map (·.size) = some 1) := Lib.hid (by kernel_rfl)
  have HOA : Hid (∀ W, W.heap[w.heap.size]? = some (.cells (bcells o).toArray 23 (0, 0)) → (loadVar 23 ⟨w.heap.size, 0, none⟩).run Try.prog W = .ok (.agg (bcells o).toArray) W) := Lib.hid (fun W h => load26 HO.out h)
  generalize (bcells o).toArray = OA at HLD HW H1 HOA ⊢
  obtain ⟨Z, hZ⟩ : ∃ Z, Z = (bcells (List.replicate 20 0)).toArray := ⟨_, rfl⟩
  have HZ := Lib.hid hZ
  rw [← hZ] at hz1 HZS HW H2
  clear h1 h2 h3 hb hW0 hs ho hlen hZ
  generalize s.length = sn at HN ⊢
  go_enter Try.func13, Try.ntmps13
  go_upto_region 2 with fail
  rw [← HW.out]
  go_upto_region 3 with (refine wpList_copy_row rfl (.tmp 9) (.tmp 10) 24 24 rfl 5 Try.underlying24 HI5.out _ _ 20 20 _ _ rfl rfl (w.heap.size + 1 + 1) 0 (bcells (List.replicate 20 0)) 23 H3.out (bcells (s.take 20)) HN.out HP.out HF.out H1C.out ?_; intro W2 hrow hgr)
  rw [HSP.out] at hrow
  have l2 : w.heap.size + 1 < W0.heap.size := (Array.getElem?_eq_some_iff.1 H2.out).1
  have k1 := (hgr.block w.heap.size (by omega) (by simp; omega)).trans H1.out
  have k2 := (hgr.block (w.heap.size + 1) l2 (by simp)).trans H2.out
  have HK3 : Hid ((loadVar 23 ⟨w.heap.size, 0, none⟩).run Try.prog W2 = .ok (.agg OA) W2) := Lib.hid (HOA.out W2 k1)
  have HCA := Lib.hid (HLD.out W2 hrow)
  have HH := Lib.hid k2
  have HLT : Hid (w.heap.size + 1 < W2.heap.size) := Lib.hid (Array.getElem?_eq_some_iff.1 k2).1
  have HB := Lib.hid (HB0.out.grown hgr (by omega) (fun k hk => by injection hk with hk; omega))
  clear hrow hgr k1 k2 l2 HN HP HF H1C HSP H1 H2 H3 HLD
  go_wp2_with (first
    | ((with_reducible refine wpList_loadV (op := ⟨some 12, _, _, _, _, _⟩) rfl 23 (.tmp 3) rfl _ ?_ _ HK3.out ?_); rfl)
    | (go_at_call 24; (with_reducible refine HCA.out.mono ?_); rintro e w1 ⟨⟨x, b, rfl, hx, hL⟩, hb1⟩; have H4 := Lib.hid ((hb1.block (w.heap.size + 1) HLT.out).trans HH.out); have HI := Lib.hid (bc_info26 hx); have HA := Lib.hid (bc_all x); have HS : Hid (Z.size = (bcells x).toArray.size) := Lib.hid (by rw [bc_size hx]; exact HZS.out); have HX := Lib.hid hx; have HL := Lib.hid hL; have HB1 := Lib.hid hb1; clear hx hL hb1)
    | ((with_reducible refine wpList_store_row rfl 23 (.tmp 6) (.tmp 16) rfl (w.heap.size + 1) (bcells x).toArray ?_ ?_ 23 Z H4.out HI.out HS.out HA.out ?_); rfl; rfl))
  have q1 := setRow_heap _ (w.heap.size + 1) _ (bcells x).toArray 23 (0, 0) H4.out
  have q2 := below_setRow (HB.out.trans (HB1.out.mono HB.out.size)) (g := w.heap.size + 1) (by omega) (bcells x).toArray
  have HJ : Hid ((Try.prog.info? 23).map (·.size) = some (bcells x).length) := Lib.hid (by rw [bcells_length, HX.out]; exact size26)
  generalize w1.setRow (w.heap.size + 1) (bcells x).toArray = W5 at q1 q2 ⊢
  refine bodyPost_ret (v := .tuple #[.agg (bcells x).toArray, .bool b]) ?_ rfl ?_
  · exact results_cell_tmpS (p := 6) (ty := 23) (q := 7) rfl _ _ (w.heap.size + 1) 0 (bcells x) _ (.bool b) rfl rfl (row_range q1) Try.underlying23 rfl HJ.out
  · exact ⟨⟨x, b, rfl, HX.out, HL.out⟩, q2⟩

theorem nearer_any (o t : List UInt8) (ho : o.length = 20) (ht : t.length = 20) (w : World) :
    Calls Try.prog 18 #[.agg (bcells o).toArray, .agg (bcells t).toArray] w fun e w' => ∃ v, e = .returned v ∧ NearerIs o t w.heap.size v w' ∧ Below w.heap.size w w' := by
  have hlx : (xorL o t).length = 20 := (xorL_length (ho.trans ht.symm)).trans ho
  have hz1 := fun W => zero26 W
  have HXO := Lib.hid (fun W => xor_any o t ho ht W)
  obtain ⟨h1, h2, hb0⟩ := heap2 w (.cells (bcells o).toArray 23) (.cells (bcells t).toArray 23)
  have HK1 := Lib.hid (load26 ho h1)
  have HK2 := Lib.hid (load26 ht h2)
  have HB0 := Lib.hid hb0
  have HZS : Hid ((bcells (List.replicate 20 0)).toArray.size = (bcells (xorL o t)).toArray.size) := Lib.hid (by rw [bc_size (by simp), bc_size hlx])
  have HXI := Lib.hid (bc_info26 hlx)
  have HXA := Lib.hid (bc_all (xorL o t))
  have B1 := Lib.hid (fun (j : Nat) (hj : j < 160) W => bit_yes (xorL o t) hlx j hj W)
  have HLO : Hid (∀ (g : Nat) W, W.heap[g]? = some (.cells (bcells (xorL o t)).toArray 23 (0, 0)) → (loadVar 23 ⟨g, 0, none⟩).run Try.prog W = .ok (.agg (bcells (xorL o t)).toArray) W) := Lib.hid (fun g W h => load26 hlx h)
  have HBX : Hid (∀ j, bitL (xorL o t) j = (bitL o j != bitL t j)) := Lib.hid (fun j => xorL_bit o t j (ho.trans ht.symm))
  generalize (bcells o).toArray = OA at HXO HK1 HK2 HB0 ⊢
  generalize (bcells t).toArray = TA at HXO HK1 HK2 HB0 ⊢
  generalize (bcells (xorL o t)).toArray = XA at HXO HZS HXI HXA B1 HLO
  generalize (bcells (List.replicate 20 0)).toArray = Z at hz1 HZS
  clear h1 h2 hb0 ho ht hlx
  go_enter Try.func18, Try.ntmps18
  go_upto_region 2 with (first
    | ((with_reducible refine wpList_loadV (op := ⟨some 8, _, _, _, _, _⟩) rfl 23 (.tmp 2) rfl _ ?_ _ HK1.out ?_); rfl)
    | ((with_reducible refine wpList_loadV (op := ⟨some 9, _, _, _, _, _⟩) rfl 23 (.tmp 3) rfl _ ?_ _ HK2.out ?_); rfl)
    | (go_at_call 30; (with_reducible refine (HXO.out _).mono ?_); rintro e w1 ⟨rfl, hb1⟩; have HB1 := Lib.hid (HB0.out.trans (hb1.mono HB0.out.size)); clear hb1)
    | ((with_reducible refine wpList_store_row rfl 23 (.tmp 5) (.tmp 10) rfl w1.heap.size XA ?_ ?_ 23 Z (heap_alloc_new w1 _) HXI.out HZS.out HXA.out ?_); rfl; rfl))
  have q1 := setRow_heap _ w1.heap.size _ XA 23 (0, 0) (heap_alloc_new w1 (.cells Z 23))
  have q2 := below_setRow (HB1.out.alloc HB1.out.size (.cells Z 23)) (g := w1.heap.size) HB1.out.size XA
  have q3 : w1.heap.size < ((w1.alloc (.cells Z 23)).setRow w1.heap.size XA).heap.size := (Array.getElem?_eq_some_iff.1 q1).1
  generalize (w1.alloc (.cells Z 23)).setRow w1.heap.size XA = W0 at q1 q2 q3 ⊢
  generalize w1.heap.size = gx at q1 q3 ⊢
  have L1 : Hid (∀ W, Below W0.heap.size W0 W → (loadVar 23 ⟨gx, 0, none⟩).run Try.prog W = .ok (.agg XA) W) := Lib.hid (fun W h => HLO.out gx W ((h.block _ q3).trans q1))
  have HQ2 := Lib.hid q2
  clear HLO HK1 HK2 HXO HZS HXI HXA q1 q2 q3
  have R0 : Hid (NeRel W0 o t (.slice none 0 0) (.int .i64 0) W0) := Lib.hid ⟨0, by omega, rfl, World.ownsRow_nil W0 _ 3 1, Below.refl _ _⟩
  go_upto_region 4 with fail
  go_loopw [6, 11] (NeRel W0 o t) (fun _ i _ => 160 - (RowKit.intOf i).toNat)
  case atStart => exact R0.out
  case round =>
    obtain ⟨j, hj, rfl, hown, hb⟩ := hrel
    clear R0
    have HB := Lib.hid hb
    have HOW := Lib.hid hown
    by_cases hlt : j < 160
    · have K1 := Lib.hid (L1.out wr hb)
      have C1 := Lib.hid (B1.out j hlt wr)
      have HS := Lib.hid (nearL_succ o t j)
      have hlen := nearL_len o t j
      rw [HBX.out j] at C1
      generalize (bitL o j != bitL t j) = b1 at C1 HS
      clear hown hb
      cases b1
      · have HREL : Hid (∀ wk, Below wr.heap.size wr wk → NeRel W0 o t u6 (.int .i64 ((j : Int) + 1)) wk) := Lib.hid (fun wk hk => ⟨j + 1, by omega, by go_num, by
          rw [HS.out]
          simp only [Bool.false_eq_true, if_false, List.append_nil]
          exact HOW.out.kept (grown_of_bel hk none) (by cases u6.ownBlock <;> simp), HB.out.trans (hk.mono HB.out.size)⟩)
        simp only [Bool.false_eq_true, if_false] at C1
        go_wp2_with (first
          | ((with_reducible refine wpList_loadV (op := ⟨some 14, _, _, _, _, _⟩) rfl 23 (.tmp 5) rfl _ ?_ _ K1.out ?_); rfl)
          | (go_at_call 29; (with_reducible refine C1.out.mono ?_); rintro e w1 ⟨rfl, hb1⟩; have HR2 := Lib.hid (HREL.out _ hb1); clear hb1))
        go_roundw
        case rel => exact HR2.out
        case measure => simp [RowKit.intOf]; omega
      · have HREL : Hid (∀ v w', w'.ownsRow W0.heap.size 3 1 v (nearL o t j ++ [j]).length (intsL (nearL o t j ++ [j])) → Below W0.heap.size W0 w' → NeRel W0 o t v (.int .i64 ((j : Int) + 1)) w') := Lib.hid (fun v w' h1 h2 => ⟨j + 1, by omega, by go_num, by
          rw [HS.out, if_pos rfl]
          exact h1, h2⟩)
        have HOK : Hid (∀ wk, Below wr.heap.size wr wk → (wk.alloc (.cells #[.int .i64 (j : Int)] 3)).ownsRow W0.heap.size 3 1 u6 (nearL o t j).length (intsL (nearL o t j))) := Lib.hid (fun wk hk => (HOW.out.kept (grown_of_bel hk none) (by cases u6.ownBlock <;> simp)).alloc _)
        have HL : Hid ((nearL o t j).length + [j].length ≤ 100000) := Lib.hid (by simp; omega)
        simp only [if_true] at C1
        go_upto_region 7 with (first
          | ((with_reducible refine wpList_loadV (op := ⟨some 14, _, _, _, _, _⟩) rfl 23 (.tmp 5) rfl _ ?_ _ K1.out ?_); rfl)
          | (go_at_call 29; (with_reducible refine C1.out.mono ?_); rintro e wk ⟨rfl, hwk⟩))
        have HWK := Lib.hid (HB.out.trans (hwk.mono HB.out.size))
        have HO2 := Lib.hid (HOK.out _ hwk)
        clear hwk HOK HOW K1 C1
        go_upto_region 8 with (refine wpList_append_ints rfl (.tmp 18) (.tmp 20) rfl W0.heap.size u6 (nearL o t j) rfl HO2.out _ [j] rfl (src_int j _) HL.out (by have := HWK.out.size; simp; omega) ?_; intro v2 w2 ho2 hg2)
        have HR2 := Lib.hid (HREL.out v2 w2 ho2 ((HWK.out.alloc HWK.out.size _).grown hg2 (by have := HWK.out.size; simp; omega) (fun k hk => (HO2.out.lt k hk).1)))
        clear ho2 hg2 HREL HB HO2 HWK
        go_wp2
        go_roundw
        case rel => exact HR2.out
        case measure => simp [RowKit.intOf]; omega
    · obtain rfl : j = 160 := by omega
      have HF : Hid (NearerIs o t w.heap.size u6 wr) := Lib.hid ⟨hown.1, hown.2.imp id (fun ⟨g, cap, cur, h1, h2, h3⟩ => ⟨g, cap, cur, h1, Nat.le_trans HQ2.out.size h2, h3⟩)⟩
      have HBF := Lib.hid (HQ2.out.trans (hb.mono HQ2.out.size))
      clear hown hb HB HOW
      go_wp2
      go_ret
      exact ⟨_, rfl, HF.out, HBF.out⟩
end Go.Proofs.Ytieeffebecghiaa
