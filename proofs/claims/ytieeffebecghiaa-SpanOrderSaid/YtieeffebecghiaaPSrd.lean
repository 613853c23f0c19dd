/- Contracts of the reference's Draw and Nearer of layer span, and of Ints of the statements on span. Conditions: an id has 20 bytes, a seed fewer than 1000. -/
import Derived.Test.YtieeffebecghiaaPSrc
namespace Go.Proofs.Ytieeffebecghiaa
set_option maxRecDepth 100000
set_option maxHeartbeats 1000000
open Go.RowKit Go.Lib Go.Great

theorem seed_splice (s : List UInt8) : Go.splice (bcells (List.replicate 20 0)) 0 (bcells (s.take 20)) = bcells (seedL s) := by
  unfold Go.splice seedL
  rw [List.take_zero, List.nil_append, Nat.zero_add, List.take_append]
  simp only [bcells, List.map_append, List.map_replicate, List.length_map, List.drop_replicate, List.take_replicate, List.length_take]
  congr 2
  omega
theorem rdraw_any (o s : List UInt8) (i : Int) (A : Option Addr) (c : Nat) (ho : o.length = 20) (w : World) (hs : BAt w w.heap.size A s) :
    Calls Try.prog 14 #[.agg (bcells o).toArray, .int .i64 i, .slice A s.length c] w fun e w' => LdIs o (seedL s) i e ∧ Below w.heap.size w w' := by
  have HLD := Lib.hid (fun W => laid_any o (seedL s) i ho (seedL_length s) W)
  have hz1 := fun W => zero42 W
  have HZS : Hid ((bcells (List.replicate 20 0)).toArray.size = 20) := Lib.hid (bc_size (by simp))
  obtain ⟨h1, h2, h3, hb⟩ := heap3 w (.cells (bcells o).toArray 26) (.cells (bcells (List.replicate 20 0)).toArray 26) (.cells (bcells (List.replicate 20 0)).toArray 26)
  obtain ⟨W0, hW0⟩ : ∃ W0, W0 = ((w.alloc (.cells (bcells o).toArray 26)).alloc (.cells (bcells (List.replicate 20 0)).toArray 26)).alloc (.cells (bcells (List.replicate 20 0)).toArray 26) := ⟨_, rfl⟩
  rw [← hW0] at h1 h2 h3 hb
  have HW := Lib.hid hW0
  have HO : Hid (o.length = 20) := Lib.hid ho
  have H1 := Lib.hid h1
  have H2 := Lib.hid h2
  have H3 := Lib.hid h3
  have HB0 := Lib.hid hb
  have hlen : (bcells (s.take 20)).length = Nat.min s.length 20 := by rw [bcells_length, List.length_take]; exact Nat.min_comm _ _
  have HN := Lib.hid hlen
  have HP : Hid (0 < (bcells (s.take 20)).length → (some ⟨w.heap.size + 1 + 1, 0, none⟩ : Option Addr) = some ⟨w.heap.size + 1 + 1, 0, none⟩ ∧ ∃ ad, A = some ad ∧ ∀ j v, (bcells (s.take 20))[j]? = some v → W0.cell? (ad.add j) = some v) := Lib.hid (fun h0 => ⟨rfl, by
    rcases hs with rfl | ⟨g, off, rfl, hg, hc⟩
    · simp [bcells] at h0
    · refine ⟨_, rfl, fun j v hv => ?_⟩
      have hj : j < s.length := by
        have := (List.getElem?_eq_some_iff.1 hv).1
        rw [bcells_length, List.length_take] at this
        omega
      rw [Addr.add_mid, World.cell?_of_block (w := w) (w' := W0) (a := ⟨g, off + j, none⟩) (hb.block g hg), hc j hj]
      have : (bcells (s.take 20))[j]? = some (.int .u8 (s[j].toNat : Int)) := by
        have hj2 : j < (s.take 20).length := by
          have := (List.getElem?_eq_some_iff.1 hv).1
          rwa [bcells_length] at this
        simp only [bcells, List.getElem?_map, List.getElem?_eq_getElem hj2, List.getElem_take, Option.map_some]
      rw [this] at hv
      exact hv⟩)
  have HF : Hid (0 + (bcells (s.take 20)).length ≤ (bcells (List.replicate 20 0)).length) := Lib.hid (by rw [bcells_length, bcells_length, List.length_take, List.length_replicate]; omega)
  have H1C : Hid (∀ v ∈ bcells (s.take 20), v.oneCell' = true) := Lib.hid (bcells_one _)
  have HSP := Lib.hid (seed_splice s)
  have HI5 : Hid ((Try.prog.info? 5).map (·.size) = some 1) := Lib.hid (by kernel_rfl)
  have HOA : Hid (∀ W, W.heap[w.heap.size]? = some (.cells (bcells o).toArray 26 (0, 0)) → (loadVar 26 ⟨w.heap.size, 0, none⟩).run Try.prog W = .ok (.agg (bcells o).toArray) W) := Lib.hid (fun W h => load42 HO.out h)
  generalize (bcells o).toArray = OA at HLD HW H1 HOA ⊢
  obtain ⟨Z, hZ⟩ : ∃ Z, Z = (bcells (List.replicate 20 0)).toArray := ⟨_, rfl⟩
  have HZ := Lib.hid hZ
  rw [← hZ] at hz1 HZS HW H2
  clear h1 h2 h3 hb hW0 hs ho hlen hZ
  generalize s.length = sn at HN ⊢
  go_enter Try.func14, Try.ntmps14
  go_upto_region 2 with fail
  rw [← HW.out]
  go_upto_region 3 with (refine wpList_copy_row rfl (.tmp 9) (.tmp 10) 24 24 rfl 5 Try.underlying24 HI5.out _ _ 20 20 _ _ rfl rfl (w.heap.size + 1 + 1) 0 (bcells (List.replicate 20 0)) 26 H3.out (bcells (s.take 20)) HN.out HP.out HF.out H1C.out ?_; intro W2 hrow hgr)
  rw [HSP.out] at hrow
  have l2 : w.heap.size + 1 < W0.heap.size := (Array.getElem?_eq_some_iff.1 H2.out).1
  have k1 := (hgr.block w.heap.size (by omega) (by simp; omega)).trans H1.out
  have k2 := (hgr.block (w.heap.size + 1) l2 (by simp)).trans H2.out
  have HK3 : Hid ((loadVar 26 ⟨w.heap.size, 0, none⟩).run Try.prog W2 = .ok (.agg OA) W2) := Lib.hid (HOA.out W2 k1)
  have HK8 := Lib.hid (load42 (seedL_length s) hrow)
  have HH := Lib.hid k2
  have HLT : Hid (w.heap.size + 1 < W2.heap.size) := Lib.hid (Array.getElem?_eq_some_iff.1 k2).1
  have HB := Lib.hid (HB0.out.grown hgr (by omega) (fun k hk => by injection hk with hk; omega))
  generalize (bcells (seedL s)).toArray = SE at HLD HK8
  clear hrow hgr k1 k2 l2 HN HP HF H1C HSP H1 H2 H3
  go_wp2_with (first
    | ((with_reducible refine wpList_loadV (op := ⟨some 12, _, _, _, _, _⟩) rfl 26 (.tmp 3) rfl _ ?_ _ HK3.out ?_); rfl)
    | ((with_reducible refine wpList_loadV (op := ⟨some 14, _, _, _, _, _⟩) rfl 26 (.tmp 8) rfl _ ?_ _ HK8.out ?_); rfl)
    | (go_at_call 26; (with_reducible refine (HLD.out _).mono ?_); rintro e w1 ⟨⟨x, b, rfl, hx, hL⟩, hb1⟩; have H4 := Lib.hid ((hb1.block (w.heap.size + 1) HLT.out).trans HH.out); have HI := Lib.hid (bc_info hx); have HA := Lib.hid (bc_all x); have HS : Hid (Z.size = (bcells x).toArray.size) := Lib.hid (by rw [bc_size hx]; exact HZS.out); have HX := Lib.hid hx; have HL := Lib.hid hL; have HB1 := Lib.hid hb1; clear hx hL hb1)
    | ((with_reducible refine wpList_store_row rfl 26 (.tmp 6) (.tmp 16) rfl (w.heap.size + 1) (bcells x).toArray ?_ ?_ 26 Z H4.out HI.out HS.out HA.out ?_); rfl; rfl))
  have q1 := setRow_heap _ (w.heap.size + 1) _ (bcells x).toArray 26 (0, 0) H4.out
  have q2 := below_setRow (HB.out.trans (HB1.out.mono HB.out.size)) (g := w.heap.size + 1) (by omega) (bcells x).toArray
  have HJ : Hid ((Try.prog.info? 26).map (·.size) = some (bcells x).length) := Lib.hid (by rw [bcells_length, HX.out]; exact size42)
  generalize w1.setRow (w.heap.size + 1) (bcells x).toArray = W5 at q1 q2 ⊢
  refine bodyPost_ret (v := .tuple #[.agg (bcells x).toArray, .bool b]) ?_ rfl ?_
  · exact results_cell_tmpS (p := 6) (ty := 26) (q := 7) rfl _ _ (w.heap.size + 1) 0 (bcells x) _ (.bool b) rfl rfl (row_range q1) Try.underlying26 rfl HJ.out
  · exact ⟨⟨x, b, rfl, HX.out, HL.out⟩, q2⟩

end Go.Proofs.Ytieeffebecghiaa
