/- Contracts of Canon and Key of signpostref10. Conditions: at most 50,000 bytes. -/
import Derived.Test.YtjiiignbejbiiaaXVra
import Derived.Test.YtjiiignbejbiiaaXVcc
import Derived.Test.YtjiiignbejbiiaaXPBlb
namespace Go.Proofs.Ytjiiignbejbiiaa
open Go.Shelf Go.RowKit Go.Lib Go.Great
set_option maxRecDepth 100000
set_option maxHeartbeats 1000000
theorem rscanon_any (s : List UInt8) (ls : s.length ≤ 50000) (w : World) : Calls Try.prog 31 #[.string (bstr s)] w fun e w' => e = .returned (tellsC (canonS s)) ∧ Below w.heap.size w w' := by
  have HG := Lib.hid (rsgood_any s ls w)
  cases hs : svcL s with
  | false =>
    rw [hs] at HG
    have he : tellsC (canonS s) = .tuple #[.string ⟨#[]⟩, .int .i64 40] := by rw [canonS, hs]; rfl
    rw [he]
    clear he hs
    generalize bstr s = S at *
    go_enter Try.func31, Try.ntmps31
    go_wp2_with (go_at_call 35; (with_reducible refine HG.out.mono ?_); rintro e w1 ⟨rfl, hb1⟩)
    refine bodyPost_ret (v := .tuple #[.string ⟨#[]⟩, .int .i64 40]) (results_2b (p := 2) (q := 3) rfl _ _ _ _ rfl rfl) rfl ?_
    exact ⟨rfl, hb1⟩
  | true =>
    rw [hs] at HG
    have he : tellsC (canonS s) = .tuple #[.string (bstr (foldL s)), .int .i64 0] := by rw [canonS, hs]; rfl
    have hl := svc_len hs
    have HF : Hid (∀ W, Below w.heap.size w W → Calls Try.prog 19 #[.string (bstr s)] W fun e w' => e = .returned (.string (bstr (foldL s))) ∧ Below w.heap.size w w') := Lib.hid (fun W hW => (rfold_any s (by omega) W).mono (by
      rintro e w' ⟨rfl, h⟩
      exact ⟨rfl, hW.trans (h.mono hW.size)⟩))
    rw [he]
    clear he hs hl
    generalize bstr (foldL s) = F at *
    generalize bstr s = S at *
    go_enter Try.func31, Try.ntmps31
    go_wp2_with (first
      | (go_at_call 35; (with_reducible refine HG.out.mono ?_); rintro e w1 ⟨rfl, hb1⟩)
      | (go_at_call 19; (with_reducible refine (HF.out _ hb1).mono ?_); rintro e w2 ⟨rfl, hb2⟩))
    refine bodyPost_ret (v := .tuple #[.string F, .int .i64 0]) (results_2b (p := 2) (q := 3) rfl _ _ _ _ rfl rfl) rfl ?_
    exact ⟨rfl, hb2⟩
theorem built54 (W : World) : (Instr.build 54 #[]).run Try.prog W = .ok (.agg (bcells (List.replicate 20 0)).toArray) W := by
  have h := zero28 W
  simp [Instr.build, h]
  rfl
theorem rskey_any (s : List UInt8) (ls : s.length ≤ 50000) (w : World) : Calls Try.prog 33 #[.string (bstr s)] w fun e w' => e = .returned (tellsK s) ∧ Below w.heap.size w w' := by
  obtain ⟨Z, hZ⟩ : ∃ Z, Z = bcells (List.replicate 20 0) := ⟨_, rfl⟩
  have hz := fun W => zero28 W
  have hbd := Lib.hid (fun W => built54 W)
  rw [← hZ] at hz hbd
  have hZl : Z.length = 20 := by rw [hZ, bcells_length, List.length_replicate]
  have hZo : ∀ u ∈ Z, u.oneCell' = true := by rw [hZ]; exact bcells_one _
  have b0 : Below w.heap.size w (w.alloc (.cells Z.toArray 54)) := (Below.refl _ w).alloc (Nat.le_refl _) _
  have h0 : (w.alloc (.cells Z.toArray 54)).heap[w.heap.size]? = some (.cells Z.toArray 54 (0, 0)) := heap_alloc_new w _
  have l0 : w.heap.size < (w.alloc (.cells Z.toArray 54)).heap.size := by simp
  obtain ⟨W0, hW0⟩ : ∃ W0, W0 = w.alloc (.cells Z.toArray 54) := ⟨_, rfl⟩
  rw [← hW0] at b0 h0 l0
  have HW0 := Lib.hid hW0
  have HC := Lib.hid (rscanon_any s ls W0)
  have HR : Hid (∀ W, Below W0.heap.size W0 W → W.heap[w.heap.size]? = some (.cells Z.toArray 54 (0, 0))) := Lib.hid (fun W hW => (hW.block _ l0).trans h0)
  have HB : Hid (∀ W, Below W0.heap.size W0 W → Below w.heap.size w W) := Lib.hid (fun W hW => b0.trans (hW.mono b0.size))
  have T1 : Hid ((Try.prog.info? 54).map (·.size) = some Z.toArray.size) := Lib.hid (by rw [List.size_toArray, hZl]; exact size28)
  have T3 : Hid (Z.toArray.all (·.oneCell') = true) := Lib.hid (all_oneCell_toArray hZo)
  have T4 : Hid ((Try.prog.info? 54).map (·.size) = some Z.length) := Lib.hid (by rw [hZl]; exact size28)
  cases hs : svcL s with
  | false =>
    have hc : canonS s = ([], 40) := by rw [canonS, hs]; rfl
    have hk : tellsK s = .tuple #[.agg Z.toArray, .int .i64 40] := by rw [tellsK, keyS, errS, hs, hZ]; rfl
    rw [hc] at HC
    rw [hk]
    unfold tellsC at HC
    clear hc hk hs hZ hZl hZo h0 l0 b0 hW0
    generalize bstr s = S at *
    go_enter Try.func33, Try.ntmps33
    go_upto_region 1 with fail
    rw [← HW0.out]
    go_wp2_with (first
      | (go_at_call 31; (with_reducible refine HC.out.mono ?_); rintro e w1 ⟨rfl, hb1⟩)
      | ((with_reducible refine wpList_buildV (o := ⟨some 13, _, _, _, _, _⟩) rfl 54 _ rfl _ ?_ _ (hbd.out _) ?_); rfl)
      | ((with_reducible refine wpList_store_row rfl 54 (.tmp 2) (.tmp 13) rfl w.heap.size Z.toArray ?_ ?_ 54 Z.toArray (HR.out _ hb1) T1.out rfl T3.out ?_); rfl; rfl))
    refine bodyPost_ret (v := .tuple #[.agg Z.toArray, .int .i64 40]) (results_cell2 (p := 2) (u := 3) (ty := 54) rfl _ _ w.heap.size 0 Z _ _ rfl rfl (row_range (setRow_heap _ _ _ Z.toArray 54 (0, 0) (HR.out _ hb1))) Try.underlying54 rfl T4.out) rfl ?_
    exact ⟨rfl, below_setRow (HB.out _ hb1) (Nat.le_refl _) _⟩
  | true =>
    have hc : canonS s = (foldL s, 0) := by rw [canonS, hs]; rfl
    obtain ⟨K, hK⟩ : ∃ K, K = bcells (shaI (foldL s)) := ⟨_, rfl⟩
    have hk : tellsK s = .tuple #[.agg K.toArray, .int .i64 0] := by rw [tellsK, keyS, errS, hs, hK]; rfl
    have hl := svc_len hs
    have hKl : K.length = 20 := by rw [hK, bcells_length]; exact idI_length _
    have hKo : ∀ u ∈ K, u.oneCell' = true := by rw [hK]; exact bcells_one _
    have HCV : Hid (∀ W, Below W0.heap.size W0 W → ∃ c W', (convert 9 29 (.string (bstr (foldL s)))).run Try.prog W = .ok (.slice (some ⟨W.heap.size, 0, none⟩) (foldL s).length c) W' ∧ Below W0.heap.size W0 W' ∧ Calls Try.prog 49 #[.slice (some ⟨W.heap.size, 0, none⟩) (foldL s).length c] W' fun e w' => e = .returned (.agg K.toArray) ∧ Below W0.heap.size W0 w') := Lib.hid (fun W hW => by
      obtain ⟨c, W', h1, h2, h3, _⟩ := str_bytes (foldL s) W
      have hb := hW.trans (h3.mono hW.size)
      refine ⟨c, W', h1, hb, ?_⟩
      refine (rsum_any _ c (foldL s) W' h2 (by rw [foldL_length]; omega)).mono ?_
      rintro e w' ⟨rfl, h⟩
      exact ⟨by rw [hK], hb.trans (h.mono hb.size)⟩)
    have T1 : Hid ((Try.prog.info? 54).map (·.size) = some K.toArray.size) := Lib.hid (by rw [List.size_toArray, hKl]; exact size28)
    have T2 : Hid (Z.toArray.size = K.toArray.size) := Lib.hid (by rw [List.size_toArray, List.size_toArray, hKl, hZl])
    have T3 : Hid (K.toArray.all (·.oneCell') = true) := Lib.hid (all_oneCell_toArray hKo)
    have T4 : Hid ((Try.prog.info? 54).map (·.size) = some K.length) := Lib.hid (by rw [hKl]; exact size28)
    rw [hc] at HC
    rw [hk]
    unfold tellsC at HC
    clear hc hk hs hZ hZl hZo h0 l0 b0 hW0 hK hKl hKo hl
    generalize (foldL s).length = fl at *
    generalize bstr (foldL s) = F at *
    generalize bstr s = S at *
    go_enter Try.func33, Try.ntmps33
    go_upto_region 1 with fail
    rw [← HW0.out]
    go_upto_region 4 with (go_at_call 31; (with_reducible refine HC.out.mono ?_); rintro e w1 ⟨rfl, hb1⟩)
    obtain ⟨c, W2, hcv, hb2, hsum⟩ := HCV.out _ hb1
    have HS := Lib.hid hsum
    clear hsum
    go_wp2_with (first
      | (go_at_call 49; (with_reducible refine HS.out.mono ?_); rintro e w2 ⟨rfl, hb3⟩)
      | ((with_reducible refine wpList_store_row rfl 54 (.tmp 2) (.tmp 17) rfl w.heap.size K.toArray ?_ ?_ 54 Z.toArray (HR.out _ hb3) T1.out T2.out T3.out ?_); rfl; rfl))
    refine bodyPost_ret (v := .tuple #[.agg K.toArray, .int .i64 0]) (results_cell2 (p := 2) (u := 3) (ty := 54) rfl _ _ w.heap.size 0 K _ _ rfl rfl (row_range (setRow_heap _ _ _ K.toArray 54 (0, 0) (HR.out _ hb3))) Try.underlying54 rfl T4.out) rfl ?_
    exact ⟨rfl, below_setRow (HB.out _ hb3) (Nat.le_refl _) _⟩
end Go.Proofs.Ytjiiignbejbiiaa
