/- Contracts of Good, Canon and Key of package service. Conditions: none. -/
import Derived.Test.YtjiiignbejbiiaaXVcb
import Derived.Test.YtjiiignbejbiiaaXPShan
import Derived.Laws.ResultCell
namespace Go.Proofs.Ytjiiignbejbiiaa
open Go.Shelf Go.RowKit Go.Lib Go.Great
set_option maxRecDepth 100000
set_option maxHeartbeats 1000000
theorem svc_len {s : List UInt8} (h : svcL s = true) : s.length ≤ 253 := ((goodL_iff s).1 ((svc_iff s).1 h).1).2
theorem sgood_any (s : List UInt8) (w : World) : Calls Try.prog 34 #[.string (bstr s)] w fun e w' => e = .returned (.bool (svcL s)) ∧ Below w.heap.size w w' := by
  have HP : Hid (Calls Try.prog 46 #[.string (bstr s)] w fun e w' => ∃ A n c, e = .returned (.tuple #[.slice A n c, .bool (svcL s)]) ∧ Below w.heap.size w w') := Lib.hid ((sparts_any s w).mono (by
    rintro e w' ⟨hb, ⟨h, A, c, rfl, _, _⟩ | ⟨h, rfl⟩⟩
    · exact ⟨A, _, c, by rw [h], hb⟩
    · exact ⟨none, 0, 0, by rw [h], hb⟩))
  generalize svcL s = b at *
  generalize bstr s = S at *
  go_enter Try.func34, Try.ntmps34
  go_wp2_with (go_at_call 46; (with_reducible refine HP.out.mono ?_); rintro e w1 ⟨A, n, c, rfl, hb1⟩)
  go_ret
  exact ⟨rfl, hb1⟩
/-- What Canon tells, as a value. -/
def tellsC (x : List UInt8 × Int) : Value := .tuple #[.string (bstr x.1), .int .i64 x.2]
theorem scanon_any (s : List UInt8) (w : World) : Calls Try.prog 30 #[.string (bstr s)] w fun e w' => e = .returned (tellsC (canonS s)) ∧ Below w.heap.size w w' := by
  have HG := Lib.hid (sgood_any s w)
  cases hs : svcL s with
  | false =>
    rw [hs] at HG
    have he : tellsC (canonS s) = .tuple #[.string ⟨#[]⟩, .int .i64 40] := by rw [canonS, hs]; rfl
    rw [he]
    clear he hs
    generalize bstr s = S at *
    go_enter Try.func30, Try.ntmps30
    go_wp2_with (go_at_call 34; (with_reducible refine HG.out.mono ?_); rintro e w1 ⟨rfl, hb1⟩)
    refine bodyPost_ret (v := .tuple #[.string ⟨#[]⟩, .int .i64 40]) (results_2b (p := 2) (q := 3) rfl _ _ _ _ rfl rfl) rfl ?_
    exact ⟨rfl, hb1⟩
  | true =>
    rw [hs] at HG
    have he : tellsC (canonS s) = .tuple #[.string (bstr (foldL s)), .int .i64 0] := by rw [canonS, hs]; rfl
    have hl := svc_len hs
    have HF : Hid (∀ W, Below w.heap.size w W → Calls Try.prog 18 #[.string (bstr s)] W fun e w' => e = .returned (.string (bstr (foldL s))) ∧ Below w.heap.size w w') := Lib.hid (fun W hW => (fold_any s (by omega) W).mono (by
      rintro e w' ⟨rfl, h⟩
      exact ⟨rfl, hW.trans (h.mono hW.size)⟩))
    rw [he]
    clear he hs hl
    generalize bstr (foldL s) = F at *
    generalize bstr s = S at *
    go_enter Try.func30, Try.ntmps30
    go_wp2_with (first
      | (go_at_call 34; (with_reducible refine HG.out.mono ?_); rintro e w1 ⟨rfl, hb1⟩)
      | (go_at_call 18; (with_reducible refine (HF.out _ hb1).mono ?_); rintro e w2 ⟨rfl, hb2⟩))
    refine bodyPost_ret (v := .tuple #[.string F, .int .i64 0]) (results_2b (p := 2) (q := 3) rfl _ _ _ _ rfl rfl) rfl ?_
    exact ⟨rfl, hb2⟩
theorem results_cell2 {fn : Func} {p u : Tmp} {ty : TypeId} (h : fn.results = #[.cell p ty, .tmp u]) {P : Program} (tmps : Array Value) (w : World) (b o : Nat) (cs : List Value) (d : TypeDesc) (x : Value) (hp : tmps.getD p undef = .pointer (some ⟨b, o, none⟩)) (hx : tmps.getD u undef = x)
    (hc : w.rangeAt b o cs) (hu : P.underlying ty = some d) (hd : d.isRow = true) (hi : (P.info? ty).map (·.size) = some cs.length) : (results fn tmps).run P w = .ok (.tuple #[.agg cs.toArray, x]) w := by
  have h1 := run_loadVar_mid (P := P) w b o ty cs d hc hu hd hi
  have hp' : tmps[p]?.getD undef = .pointer (some ⟨b, o, none⟩) := by simpa using hp
  have hx' : tmps[u]?.getD undef = x := by simpa using hx
  simp [results, h, hp', hx', h1, asAddr]
theorem built51 (W : World) : (Instr.build 51 #[]).run Try.prog W = .ok (.agg (bcells (List.replicate 20 0)).toArray) W := by
  have h := zero61 W
  simp [Instr.build, h]
  rfl
/-- A service's key, and its error. -/
def keyS (s : List UInt8) : List UInt8 := if svcL s then shaI (foldL s) else List.replicate 20 0
def errS (s : List UInt8) : Int := if svcL s then 0 else 40
theorem keyS_length (s : List UInt8) : (keyS s).length = 20 := by
  unfold keyS
  split
  · exact idI_length _
  · simp
theorem canonS_err (s : List UInt8) : (canonS s).2 = errS s := by
  unfold canonS errS
  split <;> rfl
def tellsK (s : List UInt8) : Value := .tuple #[.agg (bcells (keyS s)).toArray, .int .i64 (errS s)]
theorem skey_any (s : List UInt8) (w : World) : Calls Try.prog 32 #[.string (bstr s)] w fun e w' => e = .returned (tellsK s) ∧ Below w.heap.size w w' := by
  obtain ⟨Z, hZ⟩ : ∃ Z, Z = bcells (List.replicate 20 0) := ⟨_, rfl⟩
  have hz := fun W => zero61 W
  have hbd := Lib.hid (fun W => built51 W)
  rw [← hZ] at hz hbd
  have hZl : Z.length = 20 := by rw [hZ, bcells_length, List.length_replicate]
  have hZo : ∀ u ∈ Z, u.oneCell' = true := by rw [hZ]; exact bcells_one _
  have b0 : Below w.heap.size w (w.alloc (.cells Z.toArray 51)) := (Below.refl _ w).alloc (Nat.le_refl _) _
  have h0 : (w.alloc (.cells Z.toArray 51)).heap[w.heap.size]? = some (.cells Z.toArray 51 (0, 0)) := heap_alloc_new w _
  have l0 : w.heap.size < (w.alloc (.cells Z.toArray 51)).heap.size := by simp
  obtain ⟨W0, hW0⟩ : ∃ W0, W0 = w.alloc (.cells Z.toArray 51) := ⟨_, rfl⟩
  rw [← hW0] at b0 h0 l0
  have HW0 := Lib.hid hW0
  have HC := Lib.hid (scanon_any s W0)
  have HR : Hid (∀ W, Below W0.heap.size W0 W → W.heap[w.heap.size]? = some (.cells Z.toArray 51 (0, 0))) := Lib.hid (fun W hW => (hW.block _ l0).trans h0)
  have HB : Hid (∀ W, Below W0.heap.size W0 W → Below w.heap.size w W) := Lib.hid (fun W hW => b0.trans (hW.mono b0.size))
  have T1 : Hid ((Try.prog.info? 51).map (·.size) = some Z.toArray.size) := Lib.hid (by rw [List.size_toArray, hZl]; exact size61)
  have T3 : Hid (Z.toArray.all (·.oneCell') = true) := Lib.hid (all_oneCell_toArray hZo)
  have T4 : Hid ((Try.prog.info? 51).map (·.size) = some Z.length) := Lib.hid (by rw [hZl]; exact size61)
  cases hs : svcL s with
  | false =>
    have hc : canonS s = ([], 40) := by rw [canonS, hs]; rfl
    have hk : tellsK s = .tuple #[.agg Z.toArray, .int .i64 40] := by rw [tellsK, keyS, errS, hs, hZ]; rfl
    rw [hc] at HC
    rw [hk]
    unfold tellsC at HC
    clear hc hk hs hZ hZl hZo h0 l0 b0 hW0
    generalize bstr s = S at *
    go_enter Try.func32, Try.ntmps32
    go_upto_region 1 with fail
    rw [← HW0.out]
    go_wp2_with (first
      | (go_at_call 30; (with_reducible refine HC.out.mono ?_); rintro e w1 ⟨rfl, hb1⟩)
      | ((with_reducible refine wpList_buildV (o := ⟨some 13, _, _, _, _, _⟩) rfl 51 _ rfl _ ?_ _ (hbd.out _) ?_); rfl)
      | ((with_reducible refine wpList_store_row rfl 51 (.tmp 2) (.tmp 13) rfl w.heap.size Z.toArray ?_ ?_ 51 Z.toArray (HR.out _ hb1) T1.out rfl T3.out ?_); rfl; rfl))
    refine bodyPost_ret (v := .tuple #[.agg Z.toArray, .int .i64 40]) (results_cell2 (p := 2) (u := 3) (ty := 51) rfl _ _ w.heap.size 0 Z _ _ rfl rfl (row_range (setRow_heap _ _ _ Z.toArray 51 (0, 0) (HR.out _ hb1))) Try.underlying51 rfl T4.out) rfl ?_
    exact ⟨rfl, below_setRow (HB.out _ hb1) (Nat.le_refl _) _⟩
  | true =>
    have hc : canonS s = (foldL s, 0) := by rw [canonS, hs]; rfl
    obtain ⟨K, hK⟩ : ∃ K, K = bcells (shaI (foldL s)) := ⟨_, rfl⟩
    have hk : tellsK s = .tuple #[.agg K.toArray, .int .i64 0] := by rw [tellsK, keyS, errS, hs, hK]; rfl
    have hl := svc_len hs
    have hKl : K.length = 20 := by rw [hK, bcells_length]; exact idI_length _
    have hKo : ∀ u ∈ K, u.oneCell' = true := by rw [hK]; exact bcells_one _
    have HO : Hid (∀ W, Below W0.heap.size W0 W → Calls Try.prog 48 #[.string (bstr (foldL s))] W fun e w' => e = .returned (.agg K.toArray) ∧ Below W0.heap.size W0 w') := Lib.hid (fun W hW => (of_any (foldL s) (by rw [foldL_length]; omega) W).mono (by
      rintro e w' ⟨rfl, h⟩
      exact ⟨by rw [hK], hW.trans (h.mono hW.size)⟩))
    have T1 : Hid ((Try.prog.info? 51).map (·.size) = some K.toArray.size) := Lib.hid (by rw [List.size_toArray, hKl]; exact size61)
    have T2 : Hid (Z.toArray.size = K.toArray.size) := Lib.hid (by rw [List.size_toArray, List.size_toArray, hKl, hZl])
    have T3 : Hid (K.toArray.all (·.oneCell') = true) := Lib.hid (all_oneCell_toArray hKo)
    have T4 : Hid ((Try.prog.info? 51).map (·.size) = some K.length) := Lib.hid (by rw [hKl]; exact size61)
    rw [hc] at HC
    rw [hk]
    unfold tellsC at HC
    clear hc hk hs hZ hZl hZo h0 l0 b0 hW0 hK hKl hKo hl
    generalize bstr (foldL s) = F at *
    generalize bstr s = S at *
    go_enter Try.func32, Try.ntmps32
    go_upto_region 1 with fail
    rw [← HW0.out]
    go_wp2_with (first
      | (go_at_call 30; (with_reducible refine HC.out.mono ?_); rintro e w1 ⟨rfl, hb1⟩)
      | (go_at_call 48; (with_reducible refine (HO.out _ hb1).mono ?_); rintro e w2 ⟨rfl, hb2⟩)
      | ((with_reducible refine wpList_store_row rfl 51 (.tmp 2) (.tmp 16) rfl w.heap.size K.toArray ?_ ?_ 51 Z.toArray (HR.out _ hb2) T1.out T2.out T3.out ?_); rfl; rfl))
    refine bodyPost_ret (v := .tuple #[.agg K.toArray, .int .i64 0]) (results_cell2 (p := 2) (u := 3) (ty := 51) rfl _ _ w.heap.size 0 K _ _ rfl rfl (row_range (setRow_heap _ _ _ K.toArray 51 (0, 0) (HR.out _ hb2))) Try.underlying51 rfl T4.out) rfl ?_
    exact ⟨rfl, below_setRow (HB.out _ hb2) (Nat.le_refl _) _⟩
end Go.Proofs.Ytjiiignbejbiiaa
