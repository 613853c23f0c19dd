/- slices.Insert at instances, where the row grows. Conditions: at most 16 instances; one that is inserted. Whether two rows share memory. Conditions: rows of their own. slices.Insert at instances, where there is room. Conditions: at most 16 instances; one that is inserted. slices.Insert at instances. Conditions: at most 16 instances in a row of one's own; one that is inserted. -/
import Derived.Test.YtkceipkgebgigaaXOcc
import Derived.Test.YtkceipkgebgigaaXIif
import Derived.Test.YtkceipkgebgigaaXIiq
section
namespace Go.Proofs.Ytkceipkgebgigaa
open Go.Shelf Go.RowKit Go.Lib Go.Great
set_option maxRecDepth 100000
set_option maxHeartbeats 200000
theorem wpList_append_make {w : World} {ops : Array Oper} {rest : List Oper} {o : Oper} {a : Act} {Q : Exit → Act → World → Prop} (hgd : o.guard = none) (s x : Operand)
    (ho : o.op = .call { callee := .builtin .append, args := #[s, x], argTypes := #[56, 3] })
    (b sLen sCap k N : Nat) (z : Int) (hs : a.eval s = .slice (some ⟨b, 0, none⟩) sLen sCap) (hx : a.eval x = .int .i64 z) (hz : z = (k : Int)) (hN : sLen + k = N)
    (olds : List Value) (hlo : olds.length = sLen * 28) (holds : ∀ j v, olds[j]? = some v → w.cell? ⟨b, 0 + j, none⟩ = some v) (hg : sCap < N) (hk : N ≤ 1000) (hk1 : 0 < k)
    (h : ∀ c Z W', N ≤ c → c ≤ maxLen → Z.length = (c - sLen) * 28 → W'.heap[w.heap.size]? = some (.cells (olds ++ Z).toArray 28 (0, 0)) → Below w.heap.size w W' → wpList Try.prog ops Q rest (a.put o.dst (.slice (some ⟨w.heap.size, 0, none⟩) N c)) W') : wpList Try.prog ops Q (o :: rest) a w :=
  wpList_plain hgd fun _ hK => by
    subst hz hN
    obtain ⟨c, Z, hrun, h1, h2, h3⟩ := run_append_make w o.type ⟨b, 0, none⟩ sLen sCap k olds hlo (fun j v hj => by rw [Addr.add_mid]; exact holds j v hj) hg hk hk1
    unfold Oper.wp
    simp [execOp, ho, resolve, invoke, builtin, hs, hx, hrun, Result.andThen]
    exact hK _ _ (h c Z _ h1 h2 h3 (heap_alloc_new w.drew _) (((Below.refl _ w).drew).alloc (by simp) _))
theorem splice_ins (A Z X D : List Value) (a b : Nat) (ha : A.length = a) (hb : a + X.length = b) (hz : X.length + D.length ≤ Z.length) : splice (splice (A ++ Z) a X) b D = A ++ (X ++ (D ++ Z.drop (X.length + D.length))) := by
  subst ha hb
  have e1 : splice (A ++ Z) A.length X = A ++ (X ++ Z.drop X.length) := by
    unfold splice
    rw [List.take_left, List.drop_append, List.drop_eq_nil_of_le (by omega)]
    simp
  rw [e1]
  unfold splice
  rw [show A ++ (X ++ Z.drop X.length) = (A ++ X) ++ Z.drop X.length by simp, show A.length + X.length = (A ++ X).length by simp, List.take_left, List.drop_append, List.drop_eq_nil_of_le (by omega)]
  simp
theorem ins_grow (g bv p d c : Nat) (cur : List Value) (P D : List Ins) (x : Ins) (w : World) (hp : P.length = p) (hd : D.length = d) (hd0 : 0 < d) (hpd : p + d ≤ 16) (hc : c < p + d + 1) (hcn : p + d ≤ c)
    (hg : w.heap[g]? = some (.cells cur.toArray 28 (0, 0))) (hcur : cur.take ((p + d) * 28) = flatE encI (P ++ D)) (hsz : cur.length = c * 28) (hv : w.heap[bv]? = some (.cells (encI x).toArray 28 (0, 0))) :
    Calls Try.prog 81 #[.slice (some ⟨g, 0, none⟩) (p + d) c, .int .i64 (p : Int), .slice (some ⟨bv, 0, none⟩) 1 1] w fun e w' => ∃ v, e = .returned v ∧ w'.ownsRow w.heap.size 28 28 v (p + d + 1) (flatE encI (P ++ x :: D)) ∧ Below w.heap.size w w' := by
  have hi1 : (p : Int) ≤ ((p + d : Nat) : Int) := by omega
  have hi2 : ¬ ((p : Int) = ((p + d : Nat) : Int)) := by omega
  have hi3 : ((p + d : Nat) : Int) + 1 > (c : Int) := by omega
  have hfl : (flatE encI P).length = p * 28 := by rw [flatE_length encI_length, hp]
  have hcells : ∀ j v, (flatE encI P)[j]? = some v → w.cell? ⟨g, 0 + j, none⟩ = some v := fun j v hj => by
    have hlt := (List.getElem?_eq_some_iff.1 hj).1
    rw [hfl] at hlt
    rw [Nat.zero_add, cell_of_row w g j _ 28 (0, 0) hg]
    have e1 : (cur.take ((p + d) * 28))[j]? = some v := by
      rw [hcur]
      unfold flatE at hj ⊢
      rw [List.flatMap_append, List.getElem?_append_left (by exact (List.getElem?_eq_some_iff.1 hj).1)]
      exact hj
    rw [List.getElem?_take] at e1
    split at e1
    · simpa using e1
    · cases e1
  generalize hn : p + d = n at *
  have HP := Lib.hid hcells
  have HPL := Lib.hid hfl
  have hz : (n : Int) + 1 - (p : Int) = ((d + 1 : Nat) : Int) := by omega
  have HZ := Lib.hid hz
  have hN : p + (d + 1) = n + 1 := by omega
  go_enter Try.func81, Try.ntmps81
  go_upto_region 10 with (first
    | ((with_reducible refine wpList_append_make (o := ⟨some 40, _, _, _, _, _⟩) rfl (.tmp 34) (.tmp 39) rfl g p c (d + 1) (n + 1) ((d : Int) + 1) ?_ ?_ ?_ hN (flatE encI P) HPL.out HP.out hc ?_ ?_ ?_); rfl; rfl; rfl; omega; omega; intro c1 Z W1 h1 h2 h3 h4 h5))
  have hbv : bv < w.heap.size := (Array.getElem?_eq_some_iff.1 hv).1
  have hgl : g < w.heap.size := (Array.getElem?_eq_some_iff.1 hg).1
  have hv1 : W1.heap[bv]? = some (.cells (encI x).toArray 28 (0, 0)) := by rw [h5.block bv hbv]; exact hv
  have hg1 : W1.heap[g]? = some (.cells cur.toArray 28 (0, 0)) := by rw [h5.block g hgl]; exact hg
  have HC1 : Hid ((encI x).length = Nat.min 1 (n + 1 - p) * 28) := Lib.hid (by rw [encI_length, show Nat.min 1 (n + 1 - p) = 1 from Nat.min_eq_left (by omega)])
  have HS1 : Hid (∀ j v, (encI x)[j]? = some v → W1.cell? ((⟨bv, 0, none⟩ : Addr).add j) = some v) := Lib.hid (fun j v hj => by rw [Addr.add_mid]; exact row_range hv1 j v hj)
  have HF1 : Hid (p * 28 + (encI x).length ≤ (flatE encI P ++ Z).length) := Lib.hid (by rw [encI_length, List.length_append, hfl, h3]; omega)
  have hcl : (c1 - p) * 28 = Z.length := h3.symm
  obtain ⟨W2, hW2⟩ : ∃ W2, W2 = W1.setRow w.heap.size (splice (flatE encI P ++ Z) (p * 28) (encI x)).toArray := ⟨_, rfl⟩
  have HW2 := Lib.hid hW2
  have h4b : W2.heap[w.heap.size]? = some (.cells (splice (flatE encI P ++ Z) (p * 28) (encI x)).toArray 28 (0, 0)) := by rw [hW2]; exact setRow_heap W1 w.heap.size _ _ 28 _ h4
  have h5b : Below w.heap.size w W2 := by rw [hW2]; exact below_setRow h5 (Nat.le_refl _) _
  have H4 := Lib.hid h4
  clear hW2
  go_upto_region 11 with (first
    | ((with_reducible refine wpList_copy28 (o := ⟨some 45, _, _, _, _, _⟩) rfl (.tmp 43) (.tmp 44) rfl w.heap.size (p * 28) (n + 1 - p) (c1 - p) ⟨bv, 0, none⟩ 1 1 ?_ ?_ (flatE encI P ++ Z) (encI x) H4.out HC1.out HS1.out HF1.out (encI_one x) ?_); rfl; rfl; rw [← HW2.out]))
  have hdl : (flatE encI D).length = d * 28 := by rw [flatE_length encI_length, hd]
  obtain ⟨W3, hW3⟩ : ∃ W3, W3 = { W2 with drawn := W2.drawn + 1 } := ⟨_, rfl⟩
  have h3h : W3.heap = W2.heap := by rw [hW3]
  have h4c : W3.heap[w.heap.size]? = some (.cells (splice (flatE encI P ++ Z) (p * 28) (encI x)).toArray 28 (0, 0)) := by rw [h3h]; exact h4b
  have hg3 : W3.heap[g]? = some (.cells cur.toArray 28 (0, 0)) := by rw [h3h, h5b.block g hgl]; exact hg
  have h5c : Below w.heap.size w W3 := by rw [hW3]; exact h5b.drew
  have hsl : (splice (flatE encI P ++ Z) (p * 28) (encI x)).length = c1 * 28 := by
    rw [length_splice _ _ _ HF1.out, List.length_append, hfl, h3]
    omega
  have HC2 : Hid ((flatE encI D).length = Nat.min (n - p) (n - p) * 28) := Lib.hid (by rw [hdl, show Nat.min (n - p) (n - p) = d by rw [show Nat.min (n - p) (n - p) = n - p from Nat.min_self _]; omega])
  have HS2 : Hid (∀ j v, (flatE encI D)[j]? = some v → W3.cell? ((⟨g, p * 28, none⟩ : Addr).add j) = some v) := Lib.hid (fun j v hj => by
    have hlt := (List.getElem?_eq_some_iff.1 hj).1
    rw [hdl] at hlt
    rw [Addr.add_lit, cell_of_row W3 g _ _ 28 (0, 0) hg3]
    have e1 : (cur.take (n * 28))[p * 28 + j]? = some v := by
      rw [hcur]
      unfold flatE at hj hfl ⊢
      rw [List.flatMap_append, List.getElem?_append_right (by rw [hfl]; omega), hfl, Nat.add_sub_cancel_left]
      exact hj
    rw [List.getElem?_take] at e1
    split at e1
    · simpa using e1
    · cases e1)
  have HF2 : Hid ((p + 1) * 28 + (flatE encI D).length ≤ (splice (flatE encI P ++ Z) (p * 28) (encI x)).length) := Lib.hid (by rw [hsl, hdl]; omega)
  have HFIN : Hid (∀ W4, W4 = W3.setRow w.heap.size (splice (splice (flatE encI P ++ Z) (p * 28) (encI x)) ((p + 1) * 28) (flatE encI D)).toArray → W4.ownsRow w.heap.size 28 28 (.slice (some ⟨w.heap.size, 0, none⟩) (n + 1) c1) (n + 1) (flatE encI (P ++ x :: D)) ∧ Below w.heap.size w W4) := Lib.hid (by
    rintro W4 rfl
    have hh := setRow_heap W3 w.heap.size _ (splice (splice (flatE encI P ++ Z) (p * 28) (encI x)) ((p + 1) * 28) (flatE encI D)).toArray 28 _ h4c
    have he : flatE encI (P ++ x :: D) = flatE encI P ++ (encI x ++ flatE encI D) := by unfold flatE; rw [List.flatMap_append, List.flatMap_cons]
    have hsp := splice_ins (flatE encI P) Z (encI x) (flatE encI D) (p * 28) ((p + 1) * 28) hfl (by rw [encI_length]; omega) (by rw [encI_length, hdl, h3]; omega)
    have hlen : (flatE encI P ++ (encI x ++ flatE encI D)).length = (n + 1) * 28 := by rw [List.length_append, List.length_append, hfl, hdl, encI_length]; omega
    refine ⟨⟨by rw [he]; exact hlen, .inr ⟨w.heap.size, c1, _, rfl, Nat.le_refl _, hh, h1, h2, ?_, ?_⟩⟩, below_setRow h5c (Nat.le_refl _) _⟩
    · rw [List.size_toArray, length_splice _ _ _ HF2.out, hsl]
    · rw [hsp, he, ← hlen, show flatE encI P ++ (encI x ++ (flatE encI D ++ Z.drop ((encI x).length + (flatE encI D).length))) = (flatE encI P ++ (encI x ++ flatE encI D)) ++ Z.drop ((encI x).length + (flatE encI D).length) by simp]
      exact List.take_left)
  have HW3 := Lib.hid hW3
  have H4C := Lib.hid h4c
  have HDO := flatE_one D
  clear hW3 h3h h4c hg3 h5c hsl h4 h4b h5 h5b hv1 hg1 hv hg hcur hcells hbv hgl
  simp only [Act.put, List.setIfInBounds_toArray, List.set_cons_zero, List.set_cons_succ]
  refine region_tail 8 W3 HW3.out (by kernel_rfl) (by kernel_rfl) ?_
  simp only [List.take_succ_cons, List.take_zero, List.drop_succ_cons, List.drop_zero]
  have hwp : IntKind.i64.wrap ((p : Int) + 1) = (p : Int) + 1 := by rw [IntKind.wrap_i64]; omega
  have hq0 : 0 ≤ (p : Int) + 1 := by omega
  have hq1 : (p : Int) + 1 ≤ (n : Int) + 1 := by omega
  have hq2 : ¬ c1 = p + 1 := by omega
  have hq3 : ¬ c = p := by omega
  repeat still_step
  refine wpStill_nil ?_
  go_wp2_with (first
    | ((with_reducible refine wpList_copy28 (o := ⟨some 54, _, _, _, _, _⟩) rfl (.tmp 50) (.tmp 53) rfl w.heap.size ((p + 1) * 28) (n - p) (c1 - (p + 1)) ⟨g, p * 28, none⟩ (n - p) (c - p) ?_ ?_ _ (flatE encI D) H4C.out HC2.out HS2.out HF2.out HDO ?_); rfl; rfl))
  go_ret
  obtain ⟨f1, f2⟩ := HFIN.out _ rfl
  exact ⟨_, rfl, f1, f2⟩
end Go.Proofs.Ytkceipkgebgigaa
end
section
namespace Go.Proofs.Ytkceipkgebgigaa
open Go.Shelf Go.RowKit Go.Lib Go.Great
set_option maxRecDepth 100000
set_option maxHeartbeats 400000
theorem run_overlaps (w : World) (r : Array TypeId) (a oa la ca b ob lb cb : Nat) (X Y : Array Value) (t t' : TypeId) (ha : w.heap[a]? = some (.cells X t (0, 0))) (hb : w.heap[b]? = some (.cells Y t' (0, 0))) (hne : a ≠ b) (hla : 0 < la) (hlb : 0 < lb) :
    (Extern.SlicesOverlaps.overlaps #[56, 56] r #[.slice (some ⟨a, oa, none⟩) la ca, .slice (some ⟨b, ob, none⟩) lb cb]).run Try.prog w = .ok (.bool false) w := by
  obtain ⟨i0, hi, hz0, hz1, hz2⟩ := info28i
  have h1 : ¬ (la = 0 ∨ lb = 0 ∨ i0.size = 0) := by rw [hz1]; omega
  have fa : ∀ o, w.frozen? ⟨a, o, none⟩ = false := fun o => by simp [World.frozen?, ha]
  have fb : ∀ o, w.frozen? ⟨b, o, none⟩ = false := fun o => by simp [World.frozen?, hb]
  have sa : w.shape? a = some (t, X.size) := by simp [World.shape?, ha]
  have sb : w.shape? b = some (t', Y.size) := by simp [World.shape?, hb]
  have va : Sem.run Try.prog (viewAt a) w = .ok none w := by simp [viewAt, sa]
  have vb : Sem.run Try.prog (viewAt b) w = .ok none w := by simp [viewAt, sb]
  change Sem.run Try.prog (show Sem Value from do
    let .slice elem ← underlying 56 | stuck "slices.overlaps: slice type expected"
    let size ← sizeOf elem
    if la = 0 ∨ lb = 0 ∨ size = 0 then pure (Value.bool false)
    else if (⟨a, oa, none⟩ : Addr).block != (⟨b, ob, none⟩ : Addr).block && (← frozen ⟨a, oa, none⟩) && (← frozen ⟨b, ob, none⟩) then unsupported .addressObserved
    else do
      if (⟨a, oa, none⟩ : Addr).block != (⟨b, ob, none⟩ : Addr).block then do
        noView ⟨a, oa, none⟩; noView ⟨b, ob, none⟩
        if ← mayBeOne ⟨a, oa, none⟩ ⟨b, ob, none⟩ then return Value.bool ((← choose (.extern "sameAddr.stringBytes" 2)) == 1)
      pure (Value.bool ((⟨a, oa, none⟩ : Addr).block == (⟨b, ob, none⟩ : Addr).block && (⟨a, oa, none⟩ : Addr).off < (⟨b, ob, none⟩ : Addr).off + lb * size && (⟨b, ob, none⟩ : Addr).off < (⟨a, oa, none⟩ : Addr).off + la * size))) w = _
  simp [run_underlying Try.underlying56, sizeOf, typeInfo, hi, h1, hne, fa, fb, mayBeOne, stringish, noView, va, vb, sa, sb]
end Go.Proofs.Ytkceipkgebgigaa
end
section
namespace Go.Proofs.Ytkceipkgebgigaa
open Go.Shelf Go.RowKit Go.Lib Go.Great
set_option maxRecDepth 100000
set_option maxHeartbeats 400000
theorem splice_room (A R X D : List Value) (a b : Nat) (ha : A.length = a) (hb : a + X.length = b) (hz : X.length + D.length ≤ R.length) : splice (splice (A ++ R) b D) a X = A ++ (X ++ (D ++ R.drop (X.length + D.length))) := by
  subst ha hb
  have e1 : splice (A ++ R) (A.length + X.length) D = (A ++ R.take X.length) ++ (D ++ R.drop (X.length + D.length)) := by
    unfold splice
    rw [List.take_append, List.take_of_length_le (by omega), List.drop_append, List.drop_eq_nil_of_le (by omega)]
    simp [Nat.add_assoc, Nat.add_sub_cancel_left]
  rw [e1]
  have hl : (A ++ R.take X.length).length = A.length + X.length := by simp; omega
  unfold splice
  rw [show (A ++ R.take X.length) ++ (D ++ R.drop (X.length + D.length)) = A ++ (R.take X.length ++ (D ++ R.drop (X.length + D.length))) by simp, List.take_left, ← List.append_assoc A X, ← hl, show A ++ (R.take X.length ++ (D ++ R.drop (X.length + D.length))) = (A ++ R.take X.length) ++ (D ++ R.drop (X.length + D.length)) by simp, List.drop_left]
  simp
theorem ins_room (g bv p d c base : Nat) (cur : List Value) (P D : List Ins) (x : Ins) (w : World) (hp : P.length = p) (hd : D.length = d) (hd0 : 0 < d) (hpd : p + d ≤ 16) (hc : p + d + 1 ≤ c) (hcm : c ≤ maxLen) (hbase : base ≤ g) (hne : bv ≠ g)
    (hg : w.heap[g]? = some (.cells cur.toArray 28 (0, 0))) (hcur : cur.take ((p + d) * 28) = flatE encI (P ++ D)) (hsz : cur.length = c * 28) (hv : w.heap[bv]? = some (.cells (encI x).toArray 28 (0, 0))) :
    Calls Try.prog 81 #[.slice (some ⟨g, 0, none⟩) (p + d) c, .int .i64 (p : Int), .slice (some ⟨bv, 0, none⟩) 1 1] w fun e w' => ∃ v, e = .returned v ∧ w'.ownsRow base 28 28 v (p + d + 1) (flatE encI (P ++ x :: D)) ∧ w.grownBy w' (some g) := by
  have hi1 : (p : Int) ≤ ((p + d : Nat) : Int) := by omega
  have hi2 : ¬ ((p : Int) = ((p + d : Nat) : Int)) := by omega
  have hi3 : ¬ ((p + d : Nat) : Int) + 1 > (c : Int) := by omega
  have hi4 : ((p + d : Nat) : Int) + 1 ≤ (c : Int) := by omega
  have hfl : (flatE encI P).length = p * 28 := by rw [flatE_length encI_length, hp]
  have hdl : (flatE encI D).length = d * 28 := by rw [flatE_length encI_length, hd]
  obtain ⟨R, hR⟩ : ∃ R, cur = flatE encI P ++ R := ⟨flatE encI D ++ cur.drop ((p + d) * 28), by
    have h1 := (List.take_append_drop ((p + d) * 28) cur).symm
    rw [hcur] at h1
    unfold flatE at h1 ⊢
    rw [List.flatMap_append, List.append_assoc] at h1
    exact h1⟩
  have hRD : R.take (d * 28) = flatE encI D := by
    rw [hR, List.take_append, List.take_of_length_le (by rw [hfl]; omega), hfl, show (p + d) * 28 - p * 28 = d * 28 by omega] at hcur
    unfold flatE at hcur ⊢
    rw [List.flatMap_append] at hcur
    exact List.append_cancel_left hcur
  have hRl : R.length = (c - p) * 28 := by
    have := hsz
    rw [hR, List.length_append, hfl] at this
    omega
  generalize hn : p + d = n at *
  obtain ⟨W1, hW1⟩ : ∃ W1, W1 = { w with drawn := w.drawn + 1 } := ⟨_, rfl⟩
  have h1h : W1.heap = w.heap := by rw [hW1]
  have hgr1 : w.grownBy W1 (some g) := by rw [hW1]; exact ⟨rfl, rfl, rfl, Nat.le_refl _, fun _ _ _ => rfl⟩
  have hg1 : W1.heap[g]? = some (.cells cur.toArray 28 (0, 0)) := by rw [h1h]; exact hg
  have hv1 : W1.heap[bv]? = some (.cells (encI x).toArray 28 (0, 0)) := by rw [h1h]; exact hv
  have HC1 : Hid ((flatE encI D).length = Nat.min (n + 1 - p) (n - p) * 28) := Lib.hid (by rw [hdl, show Nat.min (n + 1 - p) (n - p) = n - p from Nat.min_eq_right (by omega)]; omega)
  have HS1 : Hid (∀ j v, (flatE encI D)[j]? = some v → W1.cell? ((⟨g, p * 28, none⟩ : Addr).add j) = some v) := Lib.hid (fun j v hj => by
    have hlt := (List.getElem?_eq_some_iff.1 hj).1
    rw [hdl] at hlt
    rw [Addr.add_lit, cell_of_row W1 g _ _ 28 (0, 0) hg1]
    rw [← hRD, List.getElem?_take, if_pos hlt] at hj
    simp only [List.getElem?_toArray, hR]
    rw [List.getElem?_append_right (by rw [hfl]; omega), hfl, Nat.add_sub_cancel_left]
    exact hj)
  have HF1 : Hid ((p + 1) * 28 + (flatE encI D).length ≤ cur.length) := Lib.hid (by rw [hsz, hdl]; omega)
  obtain ⟨W2, hW2⟩ : ∃ W2, W2 = W1.setRow g (splice cur ((p + 1) * 28) (flatE encI D)).toArray := ⟨_, rfl⟩
  have hg2 : W2.heap[g]? = some (.cells (splice cur ((p + 1) * 28) (flatE encI D)).toArray 28 (0, 0)) := by rw [hW2]; exact setRow_heap W1 g _ _ 28 _ hg1
  have hv2 : W2.heap[bv]? = some (.cells (encI x).toArray 28 (0, 0)) := by rw [hW2, setRow_other W1 g bv _ hne]; exact hv1
  have hgr2 : w.grownBy W2 (some g) := by
    rw [hW2]
    exact grownBy_trans hgr1 ⟨rfl, rfl, rfl, by simp [World.setRow], fun k _ hk => setRow_other W1 g k _ (fun e => hk (by simp [e]))⟩
  have HC2 : Hid ((encI x).length = Nat.min 1 (n + 1 - p) * 28) := Lib.hid (by rw [encI_length, show Nat.min 1 (n + 1 - p) = 1 from Nat.min_eq_left (by omega)])
  have HS2 : Hid (∀ j v, (encI x)[j]? = some v → W2.cell? ((⟨bv, 0, none⟩ : Addr).add j) = some v) := Lib.hid (fun j v hj => by rw [Addr.add_mid]; exact row_range hv2 j v hj)
  have HF2 : Hid (p * 28 + (encI x).length ≤ (splice cur ((p + 1) * 28) (flatE encI D)).length) := Lib.hid (by rw [length_splice _ _ _ HF1.out, hsz, encI_length]; omega)
  have HFIN : Hid (∀ W4, W4 = W2.setRow g (splice (splice cur ((p + 1) * 28) (flatE encI D)) (p * 28) (encI x)).toArray → W4.ownsRow base 28 28 (.slice (some ⟨g, 0, none⟩) (n + 1) c) (n + 1) (flatE encI (P ++ x :: D)) ∧ w.grownBy W4 (some g)) := Lib.hid (by
    rintro W4 rfl
    have hh := setRow_heap W2 g _ (splice (splice cur ((p + 1) * 28) (flatE encI D)) (p * 28) (encI x)).toArray 28 _ hg2
    have he : flatE encI (P ++ x :: D) = flatE encI P ++ (encI x ++ flatE encI D) := by unfold flatE; rw [List.flatMap_append, List.flatMap_cons]
    have hsp := splice_room (flatE encI P) R (encI x) (flatE encI D) (p * 28) ((p + 1) * 28) hfl (by rw [encI_length]; omega) (by rw [encI_length, hdl, hRl]; omega)
    rw [← hR] at hsp
    have hlen : (flatE encI P ++ (encI x ++ flatE encI D)).length = (n + 1) * 28 := by rw [List.length_append, List.length_append, hfl, hdl, encI_length]; omega
    refine ⟨⟨by rw [he]; exact hlen, .inr ⟨g, c, _, rfl, hbase, hh, hc, hcm, ?_, ?_⟩⟩, grownBy_trans hgr2 ⟨rfl, rfl, rfl, by simp [World.setRow], fun k _ hk => setRow_other W2 g k _ (fun e => hk (by simp [e]))⟩⟩
    · rw [List.size_toArray, length_splice _ _ _ HF2.out, length_splice _ _ _ HF1.out, hsz]
    · rw [hsp, he, ← hlen, show flatE encI P ++ (encI x ++ (flatE encI D ++ R.drop ((encI x).length + (flatE encI D).length))) = (flatE encI P ++ (encI x ++ flatE encI D)) ++ R.drop ((encI x).length + (flatE encI D).length) by simp]
      exact List.take_left)
  have hov := fun r => run_overlaps w r bv 0 1 1 g ((p + 1) * 28) (n - p) (c - (p + 1)) _ _ _ _ hv hg hne (by omega) (by omega)
  have HOV := Lib.hid hov
  have HW1 := Lib.hid hW1
  have HW2 := Lib.hid hW2
  have HG1 := Lib.hid hg1
  have HG2 := Lib.hid hg2
  have HDO := flatE_one D
  have hwp : IntKind.i64.wrap ((p : Int) + 1) = (p : Int) + 1 := by rw [IntKind.wrap_i64]; omega
  have hq0 : 0 ≤ (p : Int) + 1 := by omega
  have hq1 : (p : Int) + 1 ≤ (n : Int) + 1 := by omega
  have hq4 : (p : Int) ≤ (n : Int) + 1 := by omega
  have hq2 : ¬ c = p + 1 := by omega
  have hq3 : ¬ c = p := by omega
  clear hW1 hW2 h1h hg1 hg2 hv1 hv2 hgr1 hgr2 hg hv hcur hsz hR hRD hRl hov
  go_enter Try.func81, Try.ntmps81
  go_upto_region 15 with fail
  rw [run_callFunc_extern Try.func104 (by kernel_rfl) (by kernel_rfl) (by kernel_rfl) (e := Extern.SlicesOverlaps.overlaps #[56, 56] #[4]) (by kernel_rfl), HOV.out]
  simp only [Result.andThen]
  rw [Oper.upon_value]
  go_upto_region 15 with fail
  refine region_tail 8 W1 HW1.out (by kernel_rfl) (by kernel_rfl) ?_
  simp only [List.take_succ_cons, List.take_zero, List.drop_succ_cons, List.drop_zero]
  repeat still_step
  refine wpStill_nil ?_
  go_wp2_with (first
    | ((with_reducible refine wpList_copy28 (o := ⟨some 77, _, _, _, _, _⟩) rfl (.tmp 73) (.tmp 76) rfl g ((p + 1) * 28) (n - p) (c - (p + 1)) ⟨g, p * 28, none⟩ (n + 1 - p) (c - p) ?_ ?_ cur (flatE encI D) HG1.out HC1.out HS1.out HF1.out HDO ?_); rfl; rfl; rw [← HW2.out])
    | ((with_reducible refine wpList_copy28 (o := ⟨some 82, _, _, _, _, _⟩) rfl (.tmp 80) (.tmp 81) rfl g (p * 28) (n + 1 - p) (c - p) ⟨bv, 0, none⟩ 1 1 ?_ ?_ _ (encI x) HG2.out HC2.out HS2.out HF2.out (encI_one x) ?_); rfl; rfl))
  go_ret
  obtain ⟨f1, f2⟩ := HFIN.out _ rfl
  exact ⟨_, rfl, f1, f2⟩
end Go.Proofs.Ytkceipkgebgigaa
end
section
namespace Go.Proofs.Ytkceipkgebgigaa
open Go.Shelf Go.RowKit Go.Lib Go.Great
set_option maxRecDepth 100000
set_option maxHeartbeats 400000
theorem src_atI (x : Ins) (bv : Nat) (w : World) (hv : w.heap[bv]? = some (.cells (encI x).toArray 28 (0, 0))) : Src Try.prog 28 56 (.slice (some ⟨bv, 0, none⟩) 1 1) 1 (flatE encI [x]) w := by
  refine Src.ofSlice _ insT.und _ 1 1 (flatE encI [x]) (by rw [flatE_length encI_length]; rfl) (fun j u hu => ?_) (flatE_one _)
  rw [Addr.add_mid]
  have e1 : flatE encI [x] = encI x := by unfold flatE; simp
  rw [e1] at hu
  exact row_range hv j u hu
theorem ins_end (A : Option Addr) (p c base bv : Nat) (P : List Ins) (x : Ins) (w : World) (hp : P.length = p) (hp16 : p ≤ 16) (hA : A = none ∧ p = 0 ∧ c = 0 ∨ ∃ g, A = some ⟨g, 0, none⟩) (hpc : p ≤ c) (hbase : base ≤ w.heap.size)
    (ho : w.ownsRow base 28 28 (.slice A p c) p (flatE encI P)) (hv : w.heap[bv]? = some (.cells (encI x).toArray 28 (0, 0))) :
    Calls Try.prog 81 #[.slice A p c, .int .i64 (p : Int), .slice (some ⟨bv, 0, none⟩) 1 1] w fun e w' => ∃ v, e = .returned v ∧ w'.ownsRow base 28 28 v (p + 1) (flatE encI (P ++ [x])) ∧ w.grownBy w' (Value.slice A p c).ownBlock := by
  have HS := Lib.hid (src_atI x bv w hv)
  have HO : Hid (w.ownsRow base 28 28 (.slice A p c) P.length (flatE encI P)) := Lib.hid (by rw [hp]; exact ho)
  have HLE : Hid (P.length + [x].length ≤ 1000000) := Lib.hid (by rw [hp]; simp; omega)
  have HB := Lib.hid hbase
  have HL : Hid ((P ++ [x]).length = p + 1) := Lib.hid (by simp [hp])
  clear ho hv hp hbase
  rcases hA with ⟨rfl, rfl, rfl⟩ | ⟨g, rfl⟩
  · go_enter Try.func81, Try.ntmps81
    go_wp2_with (first
      | (refine wpList_append_ins insT (o := ⟨some 25, _, _, _, _, _⟩) rfl (.tmp 23) (.tmp 24) rfl base _ P [x] rfl HO.out _ rfl HS.out HLE.out HB.out ?_; intro v5 w5 ho5 hg5))
    go_ret
    rw [HL.out] at ho5
    exact ⟨_, rfl, ho5, hg5⟩
  · by_cases hcp : c = p
    · subst hcp
      go_enter Try.func81, Try.ntmps81
      go_wp2_with (first
        | (refine wpList_append_ins insT (o := ⟨some 25, _, _, _, _, _⟩) rfl (.tmp 23) (.tmp 24) rfl base _ P [x] rfl HO.out _ rfl HS.out HLE.out HB.out ?_; intro v5 w5 ho5 hg5))
      go_ret
      rw [HL.out] at ho5
      exact ⟨_, rfl, ho5, hg5⟩
    · go_enter Try.func81, Try.ntmps81
      go_wp2_with (first
        | (refine wpList_append_ins insT (o := ⟨some 25, _, _, _, _, _⟩) rfl (.tmp 23) (.tmp 24) rfl base _ P [x] rfl HO.out _ rfl HS.out HLE.out HB.out ?_; intro v5 w5 ho5 hg5))
      go_ret
      rw [HL.out] at ho5
      exact ⟨_, rfl, ho5, hg5⟩
/-- slices.Insert of one. -/
theorem insert_any (s : Value) (base bv : Nat) (P D : List Ins) (x : Ins) (w : World) (hL : P.length + D.length ≤ 16) (hbase : base ≤ w.heap.size)
    (ho : w.ownsRow base 28 28 s (P.length + D.length) (flatE encI (P ++ D))) (hv : w.heap[bv]? = some (.cells (encI x).toArray 28 (0, 0))) (hne : s.ownBlock ≠ some bv) :
    Calls Try.prog 81 #[s, .int .i64 (P.length : Int), .slice (some ⟨bv, 0, none⟩) 1 1] w fun e w' => ∃ v, e = .returned v ∧ w'.ownsRow base 28 28 v (P.length + D.length + 1) (flatE encI (P ++ x :: D)) ∧ w.grownBy w' s.ownBlock := by
  by_cases hd : D = []
  · subst hd
    rw [List.append_nil] at ho
    simp only [List.length_nil, Nat.add_zero] at ho hL ⊢
    rcases id ho.2 with ⟨rfl, h0⟩ | ⟨g, cap, cur, rfl, hb, hg, hc, hm, hs, ht⟩
    · exact ins_end none P.length 0 base bv P x w rfl (by omega) (.inl ⟨rfl, h0, rfl⟩) (by omega) hbase (by rw [h0] at ho ⊢; exact ho) hv |>.mono (fun e w' h => h) |> fun h => by rw [h0] at h ⊢; exact h
    · exact ins_end (some ⟨g, 0, none⟩) P.length cap base bv P x w rfl (by omega) (.inr ⟨g, rfl⟩) hc hbase ho hv
  · have hd0 : 0 < D.length := List.length_pos_iff.2 hd
    rcases ho.2 with ⟨rfl, h0⟩ | ⟨g, cap, cur, rfl, hb, hg, hc, hm, hs, ht⟩
    · omega
    · obtain ⟨l, rfl⟩ : ∃ l : List Value, cur = l.toArray := ⟨cur.toList, by simp⟩
      have hne' : bv ≠ g := fun e => hne (by rw [e]; rfl)
      have hlen : (flatE encI (P ++ D)).length = (P.length + D.length) * 28 := by rw [flatE_length encI_length, List.length_append]
      have ht' : l.take ((P.length + D.length) * 28) = flatE encI (P ++ D) := by simpa using ht
      by_cases hr : P.length + D.length + 1 ≤ cap
      · exact (ins_room g bv P.length D.length cap base l P D x w rfl rfl hd0 hL hr hm hb hne' hg ht' (by simpa using hs) hv).mono (fun e w' h => h)
      · refine (ins_grow g bv P.length D.length cap l P D x w rfl rfl hd0 hL (by omega) hc hg ht' (by simpa using hs) hv).mono ?_
        rintro e w' ⟨v, rfl, h1, h2⟩
        exact ⟨v, rfl, own_baseC h1 hbase, grown_of_bel h2 _⟩
end Go.Proofs.Ytkceipkgebgigaa
end
