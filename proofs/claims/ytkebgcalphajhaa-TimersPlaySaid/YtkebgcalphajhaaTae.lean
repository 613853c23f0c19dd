/- slices.Insert of one timer, keys are ints. Conditions: at most 100,000 timers; one that is inserted. -/
import Derived.Test.YtkebgcalphajhaaTad
namespace Go.Proofs.Ytkebgcalphajhaa
open Go.RowKit Go.Lib
set_option maxRecDepth 100000
set_option maxHeartbeats 400000
theorem encT_length (x : Int × Nat) : (encT x).length = 2 := rfl
theorem encT_one (x : Int × Nat) : ∀ u ∈ encT x, u.oneCell' = true := by
  intro u hu
  simp only [encT, List.mem_cons, List.not_mem_nil, or_false] at hu
  rcases hu with rfl | rfl <;> rfl
theorem row_get {cur xs : List Value} {off m : Nat} (h : (cur.drop off).take m = xs) (j : Nat) (u : Value) (hu : xs[j]? = some u) : cur[off + j]? = some u := by
  rw [← h, List.getElem?_take] at hu
  split at hu
  · rwa [List.getElem?_drop] at hu
  · cases hu
theorem cells_at {w : World} {b : Nat} {xs : List Value} {t : TypeId} (h : w.heap[b]? = some (.cells xs.toArray t (0, 0))) (j : Nat) (u : Value) (hu : xs[j]? = some u) : w.cell? ((⟨b, 0, none⟩ : Addr).add j) = some u := by
  rw [Addr.add_lit, cell_of_row w b _ _ t (0, 0) h, Nat.zero_add]
  simpa using hu
theorem grownBy_trans {w w1 w2 : World} {row : Option Nat} (h : w.grownBy w1 row) (h1 : w1.grownBy w2 row) : w.grownBy w2 row :=
  ⟨h1.os.trans h.os, h1.tape.trans h.tape, h1.output.trans h.output, Nat.le_trans h.size h1.size, fun k hk hne => (h1.block k (Nat.lt_of_lt_of_le hk h.size) hne).trans (h.block k hk hne)⟩
theorem splice_ins (A Z X D : List Value) (a b : Nat) (ha : A.length = a) (hb : a + X.length = b) (hz : X.length + D.length ≤ Z.length) : splice (splice (A ++ Z) a X) b D = A ++ (X ++ (D ++ Z.drop (X.length + D.length))) := by
  subst ha hb
  have e1 : splice (A ++ Z) A.length X = A ++ (X ++ Z.drop X.length) := by
    unfold splice
    rw [List.take_left, List.drop_append, List.drop_eq_nil_of_le (by omega)]
    simp
  rw [e1]
  unfold splice
  rw [show A ++ (X ++ Z.drop X.length) = (A ++ X) ++ Z.drop X.length by simp, show A.length + X.length = (A ++ X).length by simp, List.take_left, List.drop_append, List.drop_eq_nil_of_le (by omega)]
  simp
theorem splice_room (A R X D : List Value) (a b : Nat) (ha : A.length = a) (hb : a + X.length = b) (hz : X.length + D.length ≤ R.length) : splice (splice (A ++ R) b D) a X = A ++ (X ++ (D ++ R.drop (X.length + D.length))) := by
  subst ha hb
  have e1 : splice (A ++ R) (A.length + X.length) D = (A ++ R.take X.length) ++ (D ++ R.drop (X.length + D.length)) := by
    unfold splice
    rw [List.take_append, List.take_of_length_le (by omega), List.drop_append, List.drop_eq_nil_of_le (by omega)]
    simp [Nat.add_assoc, Nat.add_sub_cancel_left]
  rw [e1]
  have hl : (A ++ R.take X.length).length = A.length + X.length := by simp; omega
  unfold splice
  rw [show (A ++ R.take X.length) ++ (D ++ R.drop (X.length + D.length)) = A ++ (R.take X.length ++ (D ++ R.drop (X.length + D.length))) by simp, List.take_left, ← List.append_assoc A X, ← hl, show A ++ (R.take X.length ++ (D ++ R.drop (X.length + D.length))) = (A ++ R.take X.length) ++ (D ++ R.drop (X.length + D.length)) by simp, List.drop_left]
  simp
theorem ins_grow (g off bv p d c : Nat) (cur : List Value) (P D : List (Int × Nat)) (x : Int × Nat) (w : World) (hp : P.length = p) (hd : D.length = d) (hd0 : 0 < d) (hpd : p + d ≤ 100000) (hc : c < p + d + 1) (hcn : p + d ≤ c)
    (hg : w.heap[g]? = some (.cells cur.toArray 82 (0, 0))) (hcur : (cur.drop off).take ((p + d) * 2) = flatT (P ++ D)) (hv : w.heap[bv]? = some (.cells (encT x).toArray 82 (0, 0))) :
    Calls Try.prog 38 #[.slice (some ⟨g, off, none⟩) (p + d) c, .int .i64 (p : Int), .slice (some ⟨bv, 0, none⟩) 1 1] w fun e w' => ∃ v, e = .returned v ∧ RowAt w' 82 2 v (p + d + 1) (flatT (P ++ x :: D)) ∧ (∀ b, v.ownBlock = some b → w.heap.size ≤ b) ∧ Below w.heap.size w w' := by
  have hi1 : (p : Int) ≤ ((p + d : Nat) : Int) := by omega
  have hi2 : ¬ ((p : Int) = ((p + d : Nat) : Int)) := by omega
  have hi3 : ((p + d : Nat) : Int) + 1 > (c : Int) := by omega
  have hfl : (flatT P).length = p * 2 := by rw [flatT_length, hp]
  have hcells : ∀ j v, (flatT P)[j]? = some v → w.cell? ⟨g, off + j, none⟩ = some v := fun j v hj => by
    rw [cell_of_row w g _ _ 82 (0, 0) hg]
    have := row_get hcur j v (by rw [flatT_append, List.getElem?_append_left (List.getElem?_eq_some_iff.1 hj).1]; exact hj)
    simpa using this
  generalize hn : p + d = n at *
  have HP := Lib.hid hcells
  have HPL := Lib.hid hfl
  have hz : (n : Int) + 1 - (p : Int) = ((d + 1 : Nat) : Int) := by omega
  have HZ := Lib.hid hz
  have hN : p + (d + 1) = n + 1 := by omega
  go_enter Try.func38, Try.ntmps38
  go_upto_region 10 with (first
    | ((with_reducible refine wpList_append_make rowTm (o := ⟨some 40, _, _, _, _, _⟩) rfl (.tmp 34) (.tmp 39) rfl g off p c (d + 1) (n + 1) ((d : Int) + 1) ?_ ?_ ?_ hN (flatT P) HPL.out HP.out hc ?_ ?_ ?_); rfl; rfl; rfl; omega; omega; intro c1 Z W1 h1 h2 h3 h4 h5))
  have hbv : bv < w.heap.size := (Array.getElem?_eq_some_iff.1 hv).1
  have hgl : g < w.heap.size := (Array.getElem?_eq_some_iff.1 hg).1
  have hv1 : W1.heap[bv]? = some (.cells (encT x).toArray 82 (0, 0)) := by rw [h5.block bv hbv]; exact hv
  have hg1 : W1.heap[g]? = some (.cells cur.toArray 82 (0, 0)) := by rw [h5.block g hgl]; exact hg
  have HC1 : Hid ((encT x).length = Nat.min 1 (n + 1 - p) * 2) := Lib.hid (by rw [encT_length, show Nat.min 1 (n + 1 - p) = 1 from Nat.min_eq_left (by omega)])
  have HS1 : Hid (∀ j v, (encT x)[j]? = some v → W1.cell? ((⟨bv, 0, none⟩ : Addr).add j) = some v) := Lib.hid (fun j v hj => cells_at hv1 j v hj)
  have HF1 : Hid (p * 2 + (encT x).length ≤ (flatT P ++ Z).length) := Lib.hid (by rw [encT_length, List.length_append, hfl, h3]; omega)
  have hcl : (c1 - p) * 2 = Z.length := h3.symm
  obtain ⟨W2, hW2⟩ : ∃ W2, W2 = W1.setRow w.heap.size (splice (flatT P ++ Z) (p * 2) (encT x)).toArray := ⟨_, rfl⟩
  have HW2 := Lib.hid hW2
  have h4b : W2.heap[w.heap.size]? = some (.cells (splice (flatT P ++ Z) (p * 2) (encT x)).toArray 82 (0, 0)) := by rw [hW2]; exact setRow_heap W1 w.heap.size _ _ 82 _ h4
  have h5b : Below w.heap.size w W2 := by rw [hW2]; exact below_setRow h5 (Nat.le_refl _) _
  have H4 := Lib.hid h4
  clear hW2
  go_upto_region 11 with (first
    | ((with_reducible refine wpList_copy_row rowTm (o := ⟨some 45, _, _, _, _, _⟩) rfl (.tmp 43) (.tmp 44) rfl w.heap.size (p * 2) (n + 1 - p) (c1 - p) ⟨bv, 0, none⟩ 1 1 ?_ ?_ (flatT P ++ Z) (encT x) H4.out HC1.out HS1.out HF1.out (encT_one x) ?_); rfl; rfl; rw [← HW2.out]))
  have hdl : (flatT D).length = d * 2 := by rw [flatT_length, hd]
  obtain ⟨W3, hW3⟩ : ∃ W3, W3 = { W2 with drawn := W2.drawn + 1 } := ⟨_, rfl⟩
  have h3h : W3.heap = W2.heap := by rw [hW3]
  have h4c : W3.heap[w.heap.size]? = some (.cells (splice (flatT P ++ Z) (p * 2) (encT x)).toArray 82 (0, 0)) := by rw [h3h]; exact h4b
  have hg3 : W3.heap[g]? = some (.cells cur.toArray 82 (0, 0)) := by rw [h3h, h5b.block g hgl]; exact hg
  have h5c : Below w.heap.size w W3 := by rw [hW3]; exact h5b.drew
  have hsl : (splice (flatT P ++ Z) (p * 2) (encT x)).length = c1 * 2 := by
    rw [length_splice _ _ _ HF1.out, List.length_append, hfl, h3]
    omega
  have HC2 : Hid ((flatT D).length = Nat.min (n - p) (n - p) * 2) := Lib.hid (by rw [hdl, show Nat.min (n - p) (n - p) = d by rw [show Nat.min (n - p) (n - p) = n - p from Nat.min_self _]; omega])
  have HS2 : Hid (∀ j v, (flatT D)[j]? = some v → W3.cell? ((⟨g, off + p * 2, none⟩ : Addr).add j) = some v) := Lib.hid (fun j v hj => by
    rw [Addr.add_lit, cell_of_row W3 g _ _ 82 (0, 0) hg3]
    have := row_get hcur (p * 2 + j) v (by rw [flatT_append, List.getElem?_append_right (by rw [hfl]; omega), hfl, Nat.add_sub_cancel_left]; exact hj)
    rw [Nat.add_assoc]
    simpa using this)
  have HF2 : Hid ((p + 1) * 2 + (flatT D).length ≤ (splice (flatT P ++ Z) (p * 2) (encT x)).length) := Lib.hid (by rw [hsl, hdl]; omega)
  have HFIN : Hid (∀ W4, W4 = W3.setRow w.heap.size (splice (splice (flatT P ++ Z) (p * 2) (encT x)) ((p + 1) * 2) (flatT D)).toArray → RowAt W4 82 2 (.slice (some ⟨w.heap.size, 0, none⟩) (n + 1) c1) (n + 1) (flatT (P ++ x :: D)) ∧ Below w.heap.size w W4) := Lib.hid (by
    rintro W4 rfl
    have hh := setRow_heap W3 w.heap.size _ (splice (splice (flatT P ++ Z) (p * 2) (encT x)) ((p + 1) * 2) (flatT D)).toArray 82 _ h4c
    have he : flatT (P ++ x :: D) = flatT P ++ (encT x ++ flatT D) := by rw [flatT_append, flatT_cons]
    have hsp := splice_ins (flatT P) Z (encT x) (flatT D) (p * 2) ((p + 1) * 2) hfl (by rw [encT_length]; omega) (by rw [encT_length, hdl, h3]; omega)
    have hlen : (flatT P ++ (encT x ++ flatT D)).length = (n + 1) * 2 := by rw [List.length_append, List.length_append, hfl, hdl, encT_length]; omega
    refine ⟨⟨by rw [he]; exact hlen, .inr ⟨w.heap.size, 0, c1, _, rfl, hh, h1, h2, ?_, ?_⟩⟩, below_setRow h5c (Nat.le_refl _) _⟩
    · rw [length_splice _ _ _ HF2.out, hsl]; omega
    · rw [List.drop_zero, hsp, he, ← hlen, show flatT P ++ (encT x ++ (flatT D ++ Z.drop ((encT x).length + (flatT D).length))) = (flatT P ++ (encT x ++ flatT D)) ++ Z.drop ((encT x).length + (flatT D).length) by simp]
      exact List.take_left)
  have HW3 := Lib.hid hW3
  have H4C := Lib.hid h4c
  have HDO := flatT_one D
  clear hW3 h3h h4c hg3 h5c hsl h4 h4b h5 h5b hv1 hg1 hv hg hcur hcells hbv hgl
  simp only [Act.put, List.setIfInBounds_toArray, List.set_cons_zero, List.set_cons_succ]
  refine region_tail 8 W3 HW3.out (by kernel_rfl) (by kernel_rfl) ?_
  simp only [List.take_succ_cons, List.take_zero, List.drop_succ_cons, List.drop_zero]
  have hwp : IntKind.i64.wrap ((p : Int) + 1) = (p : Int) + 1 := by rw [IntKind.wrap_i64]; omega
  have hq0 : 0 ≤ (p : Int) + 1 := by omega
  have hq1 : (p : Int) + 1 ≤ (n : Int) + 1 := by omega
  have hq2 : ¬ c1 = p + 1 := by omega
  have hq3 : ¬ c = p := by omega
  repeat still_step
  refine wpStill_nil ?_
  go_wp2_with (first
    | ((with_reducible refine wpList_copy_row rowTm (o := ⟨some 54, _, _, _, _, _⟩) rfl (.tmp 50) (.tmp 53) rfl w.heap.size ((p + 1) * 2) (n - p) (c1 - (p + 1)) ⟨g, off + p * 2, none⟩ (n - p) (c - p) ?_ ?_ _ (flatT D) H4C.out HC2.out HS2.out HF2.out HDO ?_); rfl; rfl))
  go_ret
  obtain ⟨f1, f2⟩ := HFIN.out _ rfl
  exact ⟨_, rfl, f1, fun b hb => by have hb : some w.heap.size = some b := hb; injection hb with hb; omega, f2⟩
theorem ins_room (g off bv p d c : Nat) (cur : List Value) (P D : List (Int × Nat)) (x : Int × Nat) (w : World) (hp : P.length = p) (hd : D.length = d) (hd0 : 0 < d) (hpd : p + d ≤ 100000) (hc : p + d + 1 ≤ c) (hcm : c ≤ maxLen) (hne : bv ≠ g)
    (hg : w.heap[g]? = some (.cells cur.toArray 82 (0, 0))) (hcur : (cur.drop off).take ((p + d) * 2) = flatT (P ++ D)) (hsz : off + c * 2 ≤ cur.length) (hv : w.heap[bv]? = some (.cells (encT x).toArray 82 (0, 0))) :
    Calls Try.prog 38 #[.slice (some ⟨g, off, none⟩) (p + d) c, .int .i64 (p : Int), .slice (some ⟨bv, 0, none⟩) 1 1] w fun e w' => ∃ v, e = .returned v ∧ RowAt w' 82 2 v (p + d + 1) (flatT (P ++ x :: D)) ∧ v.ownBlock = some g ∧ w.grownBy w' (some g) := by
  have hi1 : (p : Int) ≤ ((p + d : Nat) : Int) := by omega
  have hi2 : ¬ ((p : Int) = ((p + d : Nat) : Int)) := by omega
  have hi3 : ¬ ((p + d : Nat) : Int) + 1 > (c : Int) := by omega
  have hi4 : ((p + d : Nat) : Int) + 1 ≤ (c : Int) := by omega
  have hfl : (flatT P).length = p * 2 := by rw [flatT_length, hp]
  have hdl : (flatT D).length = d * 2 := by rw [flatT_length, hd]
  have hfa := flatT_append P D
  obtain ⟨A0, R, hR, hA0⟩ : ∃ A0 R, cur = (A0 ++ flatT P) ++ R ∧ A0.length = off := ⟨cur.take off, flatT D ++ cur.drop (off + (p + d) * 2), by
    rw [List.append_assoc, ← List.append_assoc (flatT P), ← hfa, ← hcur]
    conv => lhs; rw [← List.take_append_drop off cur, ← List.take_append_drop ((p + d) * 2) (cur.drop off)]
    rw [List.drop_drop], by rw [List.length_take]; omega⟩
  have hAl : (A0 ++ flatT P).length = off + p * 2 := by rw [List.length_append, hA0, hfl]
  have hRD : R.take (d * 2) = flatT D := by
    rw [hR, List.append_assoc, ← hA0, List.drop_left, List.take_append, List.take_of_length_le (by rw [hfl]; omega), hfl, show (p + d) * 2 - p * 2 = d * 2 by omega, hfa] at hcur
    exact List.append_cancel_left hcur
  have hRl : off + c * 2 ≤ off + p * 2 + R.length := by
    have := hsz
    rw [hR, List.length_append, hAl] at this
    exact this
  generalize hn : p + d = n at *
  obtain ⟨W1, hW1⟩ : ∃ W1, W1 = { w with drawn := w.drawn + 1 } := ⟨_, rfl⟩
  have h1h : W1.heap = w.heap := by rw [hW1]
  have hgr1 : w.grownBy W1 (some g) := by rw [hW1]; exact ⟨rfl, rfl, rfl, Nat.le_refl _, fun _ _ _ => rfl⟩
  have hg1 : W1.heap[g]? = some (.cells cur.toArray 82 (0, 0)) := by rw [h1h]; exact hg
  have hv1 : W1.heap[bv]? = some (.cells (encT x).toArray 82 (0, 0)) := by rw [h1h]; exact hv
  have HC1 : Hid ((flatT D).length = Nat.min (n + 1 - p) (n - p) * 2) := Lib.hid (by rw [hdl, show Nat.min (n + 1 - p) (n - p) = n - p from Nat.min_eq_right (by omega)]; omega)
  have HS1 : Hid (∀ j v, (flatT D)[j]? = some v → W1.cell? ((⟨g, off + p * 2, none⟩ : Addr).add j) = some v) := Lib.hid (fun j v hj => by
    have hlt := (List.getElem?_eq_some_iff.1 hj).1
    rw [hdl] at hlt
    rw [Addr.add_lit, cell_of_row W1 g _ _ 82 (0, 0) hg1]
    rw [← hRD, List.getElem?_take, if_pos hlt] at hj
    simp only [List.getElem?_toArray, hR]
    rw [List.getElem?_append_right (by rw [hAl]; omega), hAl, Nat.add_sub_cancel_left]
    exact hj)
  have HF1 : Hid (off + (p + 1) * 2 + (flatT D).length ≤ cur.length) := Lib.hid (by rw [hdl]; omega)
  obtain ⟨W2, hW2⟩ : ∃ W2, W2 = W1.setRow g (splice cur (off + (p + 1) * 2) (flatT D)).toArray := ⟨_, rfl⟩
  have hg2 : W2.heap[g]? = some (.cells (splice cur (off + (p + 1) * 2) (flatT D)).toArray 82 (0, 0)) := by rw [hW2]; exact setRow_heap W1 g _ _ 82 _ hg1
  have hv2 : W2.heap[bv]? = some (.cells (encT x).toArray 82 (0, 0)) := by rw [hW2, setRow_other W1 g bv _ hne]; exact hv1
  have hgr2 : w.grownBy W2 (some g) := by
    rw [hW2]
    exact grownBy_trans hgr1 ⟨rfl, rfl, rfl, by simp [World.setRow], fun k _ hk => setRow_other W1 g k _ (fun e => hk (by simp [e]))⟩
  have HC2 : Hid ((encT x).length = Nat.min 1 (n + 1 - p) * 2) := Lib.hid (by rw [encT_length, show Nat.min 1 (n + 1 - p) = 1 from Nat.min_eq_left (by omega)])
  have HS2 : Hid (∀ j v, (encT x)[j]? = some v → W2.cell? ((⟨bv, 0, none⟩ : Addr).add j) = some v) := Lib.hid (fun j v hj => cells_at hv2 j v hj)
  have HF2 : Hid (off + p * 2 + (encT x).length ≤ (splice cur (off + (p + 1) * 2) (flatT D)).length) := Lib.hid (by rw [length_splice _ _ _ HF1.out, encT_length]; omega)
  have HFIN : Hid (∀ W4, W4 = W2.setRow g (splice (splice cur (off + (p + 1) * 2) (flatT D)) (off + p * 2) (encT x)).toArray → RowAt W4 82 2 (.slice (some ⟨g, off, none⟩) (n + 1) c) (n + 1) (flatT (P ++ x :: D)) ∧ w.grownBy W4 (some g)) := Lib.hid (by
    rintro W4 rfl
    have hh := setRow_heap W2 g _ (splice (splice cur (off + (p + 1) * 2) (flatT D)) (off + p * 2) (encT x)).toArray 82 _ hg2
    have he : flatT (P ++ x :: D) = flatT P ++ (encT x ++ flatT D) := by rw [flatT_append, flatT_cons]
    have hsp := splice_room (A0 ++ flatT P) R (encT x) (flatT D) (off + p * 2) (off + (p + 1) * 2) hAl (by rw [encT_length]; omega) (by rw [encT_length, hdl]; omega)
    rw [← hR] at hsp
    have hlen : (flatT P ++ (encT x ++ flatT D)).length = (n + 1) * 2 := by rw [List.length_append, List.length_append, hfl, hdl, encT_length]; omega
    refine ⟨⟨by rw [he]; exact hlen, .inr ⟨g, off, c, _, rfl, hh, hc, hcm, ?_, ?_⟩⟩, grownBy_trans hgr2 ⟨rfl, rfl, rfl, by simp [World.setRow], fun k _ hk => setRow_other W2 g k _ (fun e => hk (by simp [e]))⟩⟩
    · rw [length_splice _ _ _ HF2.out, length_splice _ _ _ HF1.out]; exact hsz
    · rw [hsp, he, ← hlen, List.append_assoc, ← hA0, List.drop_left, show flatT P ++ (encT x ++ (flatT D ++ R.drop ((encT x).length + (flatT D).length))) = (flatT P ++ (encT x ++ flatT D)) ++ R.drop ((encT x).length + (flatT D).length) by simp]
      exact List.take_left)
  have hov := fun r => run_overlaps rowTm w r bv 0 1 1 g (off + (p + 1) * 2) (n - p) (c - (p + 1)) _ _ _ _ hv hg hne (by omega) (by omega)
  have HOV := Lib.hid hov
  have HW1 := Lib.hid hW1
  have HW2 := Lib.hid hW2
  have HG1 := Lib.hid hg1
  have HG2 := Lib.hid hg2
  have HDO := flatT_one D
  have hwp : IntKind.i64.wrap ((p : Int) + 1) = (p : Int) + 1 := by rw [IntKind.wrap_i64]; omega
  have hq0 : 0 ≤ (p : Int) + 1 := by omega
  have hq1 : (p : Int) + 1 ≤ (n : Int) + 1 := by omega
  have hq4 : (p : Int) ≤ (n : Int) + 1 := by omega
  have hq2 : ¬ c = p + 1 := by omega
  have hq3 : ¬ c = p := by omega
  clear hW1 hW2 h1h hg1 hg2 hv1 hv2 hgr1 hgr2 hg hv hcur hsz hR hRD hRl hov hA0 hAl hfa
  go_enter Try.func38, Try.ntmps38
  go_upto_region 15 with fail
  rw [run_callFunc_extern Try.func62 (by kernel_rfl) (by kernel_rfl) (by kernel_rfl) (e := Extern.SlicesOverlaps.overlaps #[75, 75] #[4]) (by kernel_rfl), HOV.out]
  simp only [Result.andThen]
  rw [Oper.upon_value]
  go_upto_region 15 with fail
  refine region_tail 8 W1 HW1.out (by kernel_rfl) (by kernel_rfl) ?_
  simp only [List.take_succ_cons, List.take_zero, List.drop_succ_cons, List.drop_zero]
  repeat still_step
  refine wpStill_nil ?_
  go_wp2_with (first
    | ((with_reducible refine wpList_copy_row rowTm (o := ⟨some 77, _, _, _, _, _⟩) rfl (.tmp 73) (.tmp 76) rfl g (off + (p + 1) * 2) (n - p) (c - (p + 1)) ⟨g, off + p * 2, none⟩ (n + 1 - p) (c - p) ?_ ?_ cur (flatT D) HG1.out HC1.out HS1.out HF1.out HDO ?_); rfl; rfl; rw [← HW2.out])
    | ((with_reducible refine wpList_copy_row rowTm (o := ⟨some 82, _, _, _, _, _⟩) rfl (.tmp 80) (.tmp 81) rfl g (off + p * 2) (n + 1 - p) (c - p) ⟨bv, 0, none⟩ 1 1 ?_ ?_ _ (encT x) HG2.out HC2.out HS2.out HF2.out (encT_one x) ?_); rfl; rfl))
  go_ret
  obtain ⟨f1, f2⟩ := HFIN.out _ rfl
  exact ⟨_, rfl, f1, rfl, f2⟩
theorem src_atT (x : Int × Nat) (bv : Nat) (w : World) (hv : w.heap[bv]? = some (.cells (encT x).toArray 82 (0, 0))) : Src Try.prog 2 75 (.slice (some ⟨bv, 0, none⟩) 1 1) 1 (flatT [x]) w := by
  have e1 : flatT [x] = encT x := by rw [flatT_cons]; exact List.append_nil _
  rw [e1]
  exact Src.ofSlice _ rowTm.und _ 1 1 (encT x) rfl (fun j u hu => cells_at hv j u hu) (encT_one x)
theorem ins_end (A : Option Addr) (p c bv : Nat) (P : List (Int × Nat)) (x : Int × Nat) (w : World) (hp : P.length = p) (hp16 : p ≤ 100000) (hA : A = none ∧ p = 0 ∧ c = 0 ∨ ∃ g off, A = some ⟨g, off, none⟩) (hpc : p ≤ c)
    (ho : RowAt w 82 2 (.slice A p c) p (flatT P)) (hv : w.heap[bv]? = some (.cells (encT x).toArray 82 (0, 0))) :
    Calls Try.prog 38 #[.slice A p c, .int .i64 (p : Int), .slice (some ⟨bv, 0, none⟩) 1 1] w fun e w' => ∃ v, e = .returned v ∧ RowAt w' 82 2 v (p + 1) (flatT (P ++ [x])) ∧ FreshV w (.slice A p c) v ∧ w.grownBy w' (Value.slice A p c).ownBlock := by
  have HS := Lib.hid (src_atT x bv w hv)
  have HO := Lib.hid ho
  have HLE : Hid (p + 1 ≤ 100000000) := Lib.hid (by omega)
  have HL := Lib.hid (flatT_append P [x])
  clear ho hv hp
  rcases hA with ⟨rfl, rfl, rfl⟩ | ⟨g, off, rfl⟩
  · go_enter Try.func38, Try.ntmps38
    go_wp2_with (first
      | ((with_reducible refine wpList_append_row rowTm (o := ⟨some 25, _, _, _, _, _⟩) rfl (.tmp 23) (.tmp 24) rfl _ 0 _ ?_ HO.out _ 1 _ ?_ HS.out HLE.out ?_); rfl; rfl; intro v5 w5 ho5 hf5 hg5))
    go_ret
    rw [← HL.out] at ho5
    exact ⟨_, rfl, ho5, hf5, hg5⟩
  · by_cases hcp : c = p
    · subst hcp
      go_enter Try.func38, Try.ntmps38
      go_wp2_with (first
        | ((with_reducible refine wpList_append_row rowTm (o := ⟨some 25, _, _, _, _, _⟩) rfl (.tmp 23) (.tmp 24) rfl _ c _ ?_ HO.out _ 1 _ ?_ HS.out HLE.out ?_); rfl; rfl; intro v5 w5 ho5 hf5 hg5))
      go_ret
      rw [← HL.out] at ho5
      exact ⟨_, rfl, ho5, hf5, hg5⟩
    · go_enter Try.func38, Try.ntmps38
      go_wp2_with (first
        | ((with_reducible refine wpList_append_row rowTm (o := ⟨some 25, _, _, _, _, _⟩) rfl (.tmp 23) (.tmp 24) rfl _ p _ ?_ HO.out _ 1 _ ?_ HS.out HLE.out ?_); rfl; rfl; intro v5 w5 ho5 hf5 hg5))
      go_ret
      rw [← HL.out] at ho5
      exact ⟨_, rfl, ho5, hf5, hg5⟩
/-- slices.Insert of one. -/
theorem insert_any (s : Value) (bv : Nat) (P D : List (Int × Nat)) (x : Int × Nat) (w : World) (hL : P.length + D.length ≤ 100000)
    (ho : RowAt w 82 2 s (P.length + D.length) (flatT (P ++ D))) (hv : w.heap[bv]? = some (.cells (encT x).toArray 82 (0, 0))) (hne : s.ownBlock ≠ some bv) :
    Calls Try.prog 38 #[s, .int .i64 (P.length : Int), .slice (some ⟨bv, 0, none⟩) 1 1] w fun e w' => ∃ v, e = .returned v ∧ RowAt w' 82 2 v (P.length + D.length + 1) (flatT (P ++ x :: D)) ∧ FreshV w s v ∧ w.grownBy w' s.ownBlock := by
  by_cases hd : D = []
  · subst hd
    rw [List.append_nil] at ho
    simp only [List.length_nil, Nat.add_zero] at ho hL ⊢
    rcases id ho.2 with ⟨rfl, h0⟩ | ⟨g, off, cap, cur, rfl, hg, hc, hm, hs, ht⟩
    · have := ins_end none P.length 0 bv P x w rfl (by omega) (.inl ⟨rfl, h0, rfl⟩) (by omega) (by rw [h0] at ho ⊢; exact ho) hv
      rw [h0] at this ⊢
      exact this
    · exact ins_end (some ⟨g, off, none⟩) P.length cap bv P x w rfl (by omega) (.inr ⟨g, off, rfl⟩) hc ho hv
  · have hd0 : 0 < D.length := List.length_pos_iff.2 hd
    rcases ho.2 with ⟨rfl, h0⟩ | ⟨g, off, cap, cur, rfl, hg, hc, hm, hs, ht⟩
    · omega
    · have hne' : bv ≠ g := fun e => hne (by rw [e]; rfl)
      by_cases hr : P.length + D.length + 1 ≤ cap
      · refine (ins_room g off bv P.length D.length cap cur P D x w rfl rfl hd0 hL hr hm hne' hg ht hs hv).mono ?_
        rintro e w' ⟨v, rfl, h1, h2, h3⟩
        exact ⟨v, rfl, h1, fun b hb => .inl (by rw [h2] at hb; exact hb), h3⟩
      · refine (ins_grow g off bv P.length D.length cap cur P D x w rfl rfl hd0 hL (by omega) hc hg ht hv).mono ?_
        rintro e w' ⟨v, rfl, h1, h2, h3⟩
        exact ⟨v, rfl, h1, fun b hb => .inr (h2 b hb), grown_of_bel h3 _⟩
end Go.Proofs.Ytkebgcalphajhaa
