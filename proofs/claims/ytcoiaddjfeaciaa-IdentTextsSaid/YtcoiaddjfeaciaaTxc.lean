/- Contract of the reference's Parse. No condition. -/
import Derived.Test.YtcoiaddjfeaciaaTxb
namespace Go.Proofs.Ytcoiaddjfeaciaa
set_option maxRecDepth 100000
set_option maxHeartbeats 400000
open Go.RowKit Go.Great

theorem mid_pair (s : List UInt8) (j : Nat) (hj : j < 20) : (midL s (2 * j)).set j (parB s j) = midL s (2 * (j + 1)) := by
  have h1 := mid_succ s (2 * j) (by omega)
  have h2 := mid_succ s (2 * j + 1) (by omega)
  have e1 : 2 * j / 2 = j := by omega
  have e2 : (2 * j + 1) / 2 = j := by omega
  have e3 : oldN s (2 * j + 1) = vN s (2 * j) := by unfold oldN; rw [if_pos (by omega)]; congr 1
  rw [e1] at h1
  rw [e2, ← h1, List.set_set, e3] at h2
  exact h2
def RParRel (w : World) (s : List UInt8) (i : Value) (wr : World) : Prop :=
  ∃ j : Nat, j ≤ 20 ∧ i = .int .i64 (j : Int) ∧ (∀ k, k < 2 * j → 0 ≤ valI (s.getD k 0)) ∧ wr.heap[w.heap.size]? = some (.cells (bcells (List.replicate 20 0)).toArray 42 (0, 0)) ∧ wr.heap[w.heap.size + 1]? = some (.cells (bcells (midL s (2 * j))).toArray 42 (0, 0)) ∧ Below w.heap.size w wr

theorem rparse_any (s : List UInt8) (w : World) :
    Calls Try.prog 36 #[.string (bstr s)] w fun e w' => e = .returned (.tuple #[.agg (bcells (parR s)).toArray, .int .i64 (parE s)]) ∧ Below w.heap.size w w' := by
  obtain ⟨L, hL⟩ : ∃ L, L = bcells (List.replicate 20 0) := ⟨_, rfl⟩
  have hz := fun W => zero42 W
  have hbz := fun W => built42 W
  rw [← hL] at hz hbz
  have HBZ := Lib.hid hbz
  have HL := Lib.hid hL
  have hLl : L.length = 20 := by rw [hL, bcells_length, List.length_replicate]
  have hLs : L.toArray.size = 20 := (List.size_toArray).trans hLl
  have T1 : Hid ((Try.prog.info? 42).map (·.size) = some L.toArray.size) := Lib.hid (by rw [hLs]; exact size42)
  have T3 : Hid (L.toArray.all (·.oneCell') = true) := Lib.hid (all_oneCell_toArray (by rw [hL]; exact bcells_one _))
  have T4 : Hid ((Try.prog.info? 42).map (·.size) = some L.length) := Lib.hid (by rw [hLl]; exact size42)
  have hss : (bstr s).size = s.length := rfl
  obtain ⟨h1, h2, h4⟩ := heap2 w (.cells L.toArray 42) (.cells L.toArray 42)
  clear hbz hL hLl hLs
  by_cases hlen : s.length = 40
  · have R0 : Hid (RParRel w s (.int .i64 0) ((w.alloc (.cells L.toArray 42)).alloc (.cells L.toArray 42))) := Lib.hid ⟨0, by omega, rfl, fun k hk => by omega, by rw [h1, HL.out], by rw [h2, HL.out, Nat.mul_zero, midL_zero], h4⟩
    have hs40 : (bstr s).size = 40 := by rw [hss, hlen]
    have HGET : Hid (∀ (j : Nat) (h : j < (bstr s).size), (bstr s)[j]'h = s.getD j 0) := Lib.hid (fun j h => by rw [ba_get]; rfl)
    have HLEN := Lib.hid hlen
    generalize hstr : bstr s = str at hs40 HGET ⊢
    clear h1 h2 h4 hss hlen hstr
    go_enter Try.func36, Try.ntmps36
    go_wp2
    clear hz
    go_loopw [5] (RParRel w s) (fun i _ => 20 - (intOf i).toNat)
    case atStart => exact R0.out
    case round =>
      obtain ⟨j, hj, rfl, hk, hr0, hr1, hb⟩ := hrel
      clear R0
      by_cases hlt : j < 20
      · have hlt' : (j : Int) < 20 := by omega
        obtain ⟨p, hp⟩ : ∃ p, 2 * j = p := ⟨_, rfl⟩
        have hmul : (2 : Int) * (j : Int) = (p : Int) := by omega
        have hwp : IntKind.i64.wrap (p : Int) = (p : Int) := by rw [IntKind.wrap_i64]; omega
        have hwp1 : IntKind.i64.wrap ((p : Int) + 1) = (p : Int) + 1 := by rw [IntKind.wrap_i64]; omega
        have hp1 : ((p : Int) + 1).toNat = p + 1 := by omega
        have hb40 : (p : Int) < 40 := by omega
        have hb41 : (p : Int) + 1 < 40 := by omega
        have hbp : p < str.size := by omega
        have hbp1 : p + 1 < str.size := by omega
        have hget1 := HGET.out p hbp
        have hget2 := HGET.out (p + 1) hbp1
        have HV0 := Lib.hid (fun W => value_any (s.getD p 0) W)
        have HV1 := Lib.hid (fun W => value_any (s.getD (p + 1) 0) W)
        by_cases ha : valI (s.getD p 0) < 0
        · have hno : ¬ okP s := fun h => by have := h.2 p (by omega); omega
          have hb2 : True := trivial
          have e1 : parR s = List.replicate 20 0 := by unfold parR; rw [if_neg hno]
          have e2 : parE s = 10 := by unfold parE; rw [if_neg hno]
          have HE : Hid (parR s = List.replicate 20 0 ∧ parE s = 10) := Lib.hid ⟨e1, e2⟩
          have S4 : Hid (wr.heap[w.heap.size]? = some (.cells L.toArray 42 (0, 0))) := Lib.hid (by rw [hr0, HL.out])
          have HB := Lib.hid hb
          generalize s.getD p 0 = ca at hget1 HV0 ha
          generalize s.getD (p + 1) 0 = cb at hget2 HV1
          generalize valI ca = va at HV0 ha
          generalize valI cb = vb at HV1
          clear hno e1 e2 hk hr0 hr1 hb
          go_upto_region 8 with (go_at_call 66; refine (HV0.out _).mono ?_; rintro e w1 ⟨rfl, rfl⟩)
          go_wp2_with (first
            | (go_at_call 66; refine (HV1.out _).mono ?_; rintro e w1 ⟨rfl, rfl⟩)
            | ((with_reducible refine wpList_buildV (o := ⟨some 33, _, _, _, _, _⟩) rfl 42 _ rfl _ ?_ _ (HBZ.out _) ?_); (simp only [List.map_toArray, List.map_nil]))
            | ((with_reducible refine wpList_store_row rfl 42 (.tmp 2) (.tmp 33) rfl w.heap.size L.toArray ?_ ?_ 42 L.toArray S4.out T1.out rfl T3.out ?_); rfl; rfl))
          refine bodyPost_ret (v := .tuple #[.agg L.toArray, .int .i64 10]) ?_ rfl ?_
          · exact results_cell_tmp (p := 2) (ty := 42) (q := 3) rfl _ _ w.heap.size 0 L _ (.int .i64 10) rfl rfl (row_range (setRow_heap _ _ _ L.toArray 42 (0, 0) S4.out)) Try.underlying42 rfl T4.out
          · exact ⟨by rw [HE.out.1, HE.out.2, HL.out], below_setRow HB.out (Nat.le_refl _) _⟩
        · by_cases hb2 : valI (s.getD (p + 1) 0) < 0
          · have hno : ¬ okP s := fun h => by have := h.2 (p + 1) (by omega); omega
            have e1 : parR s = List.replicate 20 0 := by unfold parR; rw [if_neg hno]
            have e2 : parE s = 10 := by unfold parE; rw [if_neg hno]
            have HE : Hid (parR s = List.replicate 20 0 ∧ parE s = 10) := Lib.hid ⟨e1, e2⟩
            have S4 : Hid (wr.heap[w.heap.size]? = some (.cells L.toArray 42 (0, 0))) := Lib.hid (by rw [hr0, HL.out])
            have HB := Lib.hid hb
            generalize s.getD p 0 = ca at hget1 HV0 ha
            generalize s.getD (p + 1) 0 = cb at hget2 HV1 hb2
            generalize valI ca = va at HV0 ha
            generalize valI cb = vb at HV1 hb2
            clear hno e1 e2 hk hr0 hr1 hb
            go_upto_region 8 with (go_at_call 66; refine (HV0.out _).mono ?_; rintro e w1 ⟨rfl, rfl⟩)
            go_wp2_with (first
              | (go_at_call 66; refine (HV1.out _).mono ?_; rintro e w1 ⟨rfl, rfl⟩)
              | ((with_reducible refine wpList_buildV (o := ⟨some 33, _, _, _, _, _⟩) rfl 42 _ rfl _ ?_ _ (HBZ.out _) ?_); (simp only [List.map_toArray, List.map_nil]))
              | ((with_reducible refine wpList_store_row rfl 42 (.tmp 2) (.tmp 33) rfl w.heap.size L.toArray ?_ ?_ 42 L.toArray S4.out T1.out rfl T3.out ?_); rfl; rfl))
            refine bodyPost_ret (v := .tuple #[.agg L.toArray, .int .i64 10]) ?_ rfl ?_
            · exact results_cell_tmp (p := 2) (ty := 42) (q := 3) rfl _ _ w.heap.size 0 L _ (.int .i64 10) rfl rfl (row_range (setRow_heap _ _ _ L.toArray 42 (0, 0) S4.out)) Try.underlying42 rfl T4.out
            · exact ⟨by rw [HE.out.1, HE.out.2, HL.out], below_setRow HB.out (Nat.le_refl _) _⟩
          · have hva : valI (s.getD p 0) = ((vN s p : Nat) : Int) := by unfold vN; omega
            have hvb : valI (s.getD (p + 1) 0) = ((vN s (p + 1) : Nat) : Int) := by unfold vN; omega
            have l0 := vN_lt s p
            have l1 := vN_lt s (p + 1)
            have fr := frozen_of_row wr (w.heap.size + 1) j _ 42 hr1
            have s1 := heap_setCell_same wr (w.heap.size + 1) j _ 42 (.int .u8 ((parB s j).toNat : Int)) hr1
            rw [bcells_set, mid_pair s j hlt] at s1
            have c1 := row_byte hr1 j (by rw [midL_length]; omega)
            have HR : Hid (RParRel w s (.int .i64 ((j : Int) + 1)) (wr.setCell ⟨w.heap.size + 1, j, none⟩ (.int .u8 ((parB s j).toNat : Int)))) := Lib.hid ⟨j + 1, by omega, by go_num, fun k h => by
              by_cases hkj : k = p
              · rw [hkj]; omega
              · by_cases hkj2 : k = p + 1
                · rw [hkj2]; omega
                · exact hk k (by omega), (Below.heap_setCell _ _ _ _ (by simp)).trans hr0, s1, hb.setCell (p := ⟨w.heap.size + 1, j, none⟩) (by show w.heap.size ≤ w.heap.size + 1; omega) _⟩
            have hx : (16 * ((vN s p : Nat) : Int) + ((vN s (p + 1) : Nat) : Int)) % 256 = ((parB s j).toNat : Int) := by
              unfold parB
              rw [hp, UInt8.toNat_ofNat']
              omega
            rw [hva] at HV0
            rw [hvb] at HV1
            have n0 : ¬ ((vN s p : Nat) : Int) < 0 := by omega
            have n1 : ¬ ((vN s (p + 1) : Nat) : Int) < 0 := by omega
            have m0 : ((vN s p : Nat) : Int) < 16 := by omega
            have m1 : ((vN s (p + 1) : Nat) : Int) < 16 := by omega
            generalize (parB s j).toNat = x at HR hx
            generalize s.getD p 0 = ca at hget1 HV0
            generalize s.getD (p + 1) 0 = cb at hget2 HV1
            generalize vN s p = va at HV0 hx n0 m0
            generalize vN s (p + 1) = vb at HV1 hx n1 m1
            generalize ((midL s (2 * j)).getD j 0).toNat = old at c1
            clear ha hb2 hva hvb l0 l1 s1 hk hr0 hr1 hb hp
            go_upto_region 8 with (go_at_call 66; refine (HV0.out _).mono ?_; rintro e w1 ⟨rfl, rfl⟩)
            go_wp2_with (go_at_call 66; refine (HV1.out _).mono ?_; rintro e w1 ⟨rfl, rfl⟩)
            go_roundw
            case rel =>
              have hx2 : 16 * (va : Int) + (vb : Int) = (x : Int) := by omega
              rw [hx2]
              exact HR.out
            case measure => simp [intOf]; omega
      · have hj40 : j = 20 := by omega
        have hjn : ¬ (j : Int) < 20 := by omega
        rw [hj40] at hr1 hk
        rw [midL_full] at hr1
        have hok : okP s := ⟨HLEN.out, fun k h => hk k (by omega)⟩
        have e1 : parR s = parL s := by unfold parR; rw [if_pos hok]
        have e2 : parE s = 0 := by unfold parE; rw [if_pos hok]
        obtain ⟨M, hM⟩ : ∃ M, M = bcells (parL s) := ⟨_, rfl⟩
        have hE := idEnd2 (zs := List.replicate 20 0) (parL_length s) (by simp) hr1 hr0
        rw [← hM] at hE
        have HE := Lib.hid hE
        have HM : Hid (M = bcells (parR s) ∧ parE s = 0) := Lib.hid ⟨by rw [hM, e1], e2⟩
        have HB := Lib.hid hb
        clear hk hr0 hr1 hb hE hM e1 e2 hok hj40 hlt hj
        go_wp2_with ((with_reducible refine wpList_load_mid (op := ⟨some 41, _, _, _, _, _⟩) rfl 42 (.tmp 4) rfl (w.heap.size + 1) 0 ?_ M _ HE.out.q1 Try.underlying42 rfl HE.out.hj ?_); rfl; refine wpList_store_mid rfl 42 (.tmp 2) (.tmp 41) rfl w.heap.size 0 M.toArray rfl rfl HE.out.ht HE.out.hi HE.out.hc ?_)
        refine bodyPost_ret (v := .tuple #[.agg M.toArray, .int .i64 0]) ?_ rfl ?_
        · exact results_cell_tmp (p := 2) (ty := 42) (q := 3) rfl _ _ w.heap.size 0 M _ (.int .i64 0) rfl rfl (by simpa using HE.out.hs) Try.underlying42 rfl HE.out.hj
        · exact ⟨by rw [HM.out.2, ← HM.out.1], by simpa using below_cells (Nat.le_refl _) M 0 _ HB.out⟩
  · have hno : ¬ okP s := fun h => hlen h.1
    have e1 : parR s = List.replicate 20 0 := by unfold parR; rw [if_neg hno]
    have e2 : parE s = 10 := by unfold parE; rw [if_neg hno]
    have HE : Hid (parR s = List.replicate 20 0 ∧ parE s = 10) := Lib.hid ⟨e1, e2⟩
    have hne : ¬ ((bstr s).size : Int) = 40 := by rw [hss]; omega
    have hne2 : ¬ (bstr s).size = 40 := by rw [hss]; omega
    have S4 : Hid (((w.alloc (.cells L.toArray 42)).alloc (.cells L.toArray 42)).heap[w.heap.size]? = some (.cells L.toArray 42 (0, 0))) := Lib.hid h1
    have HB := Lib.hid h4
    generalize bstr s = str at hne hne2 ⊢
    clear hlen hno e1 e2 hss h1 h2 h4
    go_enter Try.func36, Try.ntmps36
    go_wp2_with (first
      | ((with_reducible refine wpList_buildV (o := ⟨some 11, _, _, _, _, _⟩) rfl 42 _ rfl _ ?_ _ (HBZ.out _) ?_); (simp only [List.map_toArray, List.map_nil]))
      | ((with_reducible refine wpList_store_row rfl 42 (.tmp 2) (.tmp 11) rfl w.heap.size L.toArray ?_ ?_ 42 L.toArray S4.out T1.out rfl T3.out ?_); rfl; rfl))
    refine bodyPost_ret (v := .tuple #[.agg L.toArray, .int .i64 10]) ?_ rfl ?_
    · exact results_cell_tmp (p := 2) (ty := 42) (q := 3) rfl _ _ w.heap.size 0 L _ (.int .i64 10) rfl rfl (row_range (setRow_heap _ _ _ L.toArray 42 (0, 0) S4.out)) Try.underlying42 rfl T4.out
    · exact ⟨by rw [HE.out.1, HE.out.2, HL.out], below_setRow HB.out (Nat.le_refl _) _⟩
end Go.Proofs.Ytcoiaddjfeaciaa
