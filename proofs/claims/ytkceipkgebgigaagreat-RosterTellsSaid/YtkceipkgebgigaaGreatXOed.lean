/- slices.Insert at instances, where there is room. Conditions: at most 16 instances; one that is inserted. slices.Insert at instances. Conditions: at most 16 instances in a row of one's own; one that is inserted. slices.Delete of one instance. Conditions: a row of one's own, at most 17 instances. -/
import Derived.Test.YtkceipkgebgigaaGreatProg
import Derived.Test.YtkceipkgebgigaaGreatXOga
section
namespace Go.Proofs.YtkceipkgebgigaaGreat
open Go.Shelf Go.RowKit Go.Lib Go.Great
set_option maxRecDepth 100000
set_option maxHeartbeats 400000
theorem splice_room (A R X D : List Value) (a b : Nat) (ha : A.length = a) (hb : a + X.length = b) (hz : X.length + D.length ≤ R.length) : splice (splice (A ++ R) b D) a X = A ++ (X ++ (D ++ R.drop (X.length + D.length))) := by
  subst ha hb
  have e1 : splice (A ++ R) (A.length + X.length) D = (A ++ R.take X.length) ++ (D ++ R.drop (X.length + D.length)) := by
    unfold splice
    rw [List.take_append, List.take_of_length_le (by omega), List.drop_append, List.drop_eq_nil_of_le (by omega)]
    simp [Nat.add_assoc, Nat.add_sub_cancel_left]
  rw [e1]
  have hl : (A ++ R.take X.length).length = A.length + X.length := by simp; omega
  unfold splice
  rw [show (A ++ R.take X.length) ++ (D ++ R.drop (X.length + D.length)) = A ++ (R.take X.length ++ (D ++ R.drop (X.length + D.length))) by simp, List.take_left, ← List.append_assoc A X, ← hl, show A ++ (R.take X.length ++ (D ++ R.drop (X.length + D.length))) = (A ++ R.take X.length) ++ (D ++ R.drop (X.length + D.length)) by simp, List.drop_left]
  simp
theorem ins_room (g bv p d c base : Nat) (cur : List Value) (P D : List Ins) (x : Ins) (w : World) (hp : P.length = p) (hd : D.length = d) (hd0 : 0 < d) (hpd : p + d ≤ 16) (hc : p + d + 1 ≤ c) (hcm : c ≤ maxLen) (hbase : base ≤ g) (hne : bv ≠ g)
    (hg : w.heap[g]? = some (.cells cur.toArray 29 (0, 0))) (hcur : cur.take ((p + d) * 28) = flatE encI (P ++ D)) (hsz : cur.length = c * 28) (hv : w.heap[bv]? = some (.cells (encI x).toArray 29 (0, 0))) :
    Calls Tryz.prog 27 #[.slice (some ⟨g, 0, none⟩) (p + d) c, .int .i64 (p : Int), .slice (some ⟨bv, 0, none⟩) 1 1] w fun e w' => ∃ v, e = .returned v ∧ w'.ownsRow base 29 28 v (p + d + 1) (flatE encI (P ++ x :: D)) ∧ w.grownBy w' (some g) := by
  have hi1 : (p : Int) ≤ ((p + d : Nat) : Int) := by omega
  have hi2 : ¬ ((p : Int) = ((p + d : Nat) : Int)) := by omega
  have hi3 : ¬ ((p + d : Nat) : Int) + 1 > (c : Int) := by omega
  have hi4 : ((p + d : Nat) : Int) + 1 ≤ (c : Int) := by omega
  have hfl : (flatE encI P).length = p * 28 := by rw [flatE_length encI_length, hp]
  have hdl : (flatE encI D).length = d * 28 := by rw [flatE_length encI_length, hd]
  obtain ⟨R, hR⟩ : ∃ R, cur = flatE encI P ++ R := ⟨flatE encI D ++ cur.drop ((p + d) * 28), by
    have h1 := (List.take_append_drop ((p + d) * 28) cur).symm
    rw [hcur] at h1
    unfold flatE at h1 ⊢
    rw [List.flatMap_append, List.append_assoc] at h1
    exact h1⟩
  have hRD : R.take (d * 28) = flatE encI D := by
    rw [hR, List.take_append, List.take_of_length_le (by rw [hfl]; omega), hfl, show (p + d) * 28 - p * 28 = d * 28 by omega] at hcur
    unfold flatE at hcur ⊢
    rw [List.flatMap_append] at hcur
    exact List.append_cancel_left hcur
  have hRl : R.length = (c - p) * 28 := by
    have := hsz
    rw [hR, List.length_append, hfl] at this
    omega
  generalize hn : p + d = n at *
  obtain ⟨W1, hW1⟩ : ∃ W1, W1 = { w with drawn := w.drawn + 1 } := ⟨_, rfl⟩
  have h1h : W1.heap = w.heap := by rw [hW1]
  have hgr1 : w.grownBy W1 (some g) := by rw [hW1]; exact ⟨rfl, rfl, rfl, Nat.le_refl _, fun _ _ _ => rfl⟩
  have hg1 : W1.heap[g]? = some (.cells cur.toArray 29 (0, 0)) := by rw [h1h]; exact hg
  have hv1 : W1.heap[bv]? = some (.cells (encI x).toArray 29 (0, 0)) := by rw [h1h]; exact hv
  have HC1 : Hid ((flatE encI D).length = Nat.min (n + 1 - p) (n - p) * 28) := Lib.hid (by rw [hdl, show Nat.min (n + 1 - p) (n - p) = n - p from Nat.min_eq_right (by omega)]; omega)
  have HS1 : Hid (∀ j v, (flatE encI D)[j]? = some v → W1.cell? ((⟨g, p * 28, none⟩ : Addr).add j) = some v) := Lib.hid (fun j v hj => by
    have hlt := (List.getElem?_eq_some_iff.1 hj).1
    rw [hdl] at hlt
    rw [Addr.add_lit, cell_of_row W1 g _ _ 29 (0, 0) hg1]
    rw [← hRD, List.getElem?_take, if_pos hlt] at hj
    simp only [List.getElem?_toArray, hR]
    rw [List.getElem?_append_right (by rw [hfl]; omega), hfl, Nat.add_sub_cancel_left]
    exact hj)
  have HF1 : Hid ((p + 1) * 28 + (flatE encI D).length ≤ cur.length) := Lib.hid (by rw [hsz, hdl]; omega)
  obtain ⟨W2, hW2⟩ : ∃ W2, W2 = W1.setRow g (splice cur ((p + 1) * 28) (flatE encI D)).toArray := ⟨_, rfl⟩
  have hg2 : W2.heap[g]? = some (.cells (splice cur ((p + 1) * 28) (flatE encI D)).toArray 29 (0, 0)) := by rw [hW2]; exact setRow_heap W1 g _ _ 29 _ hg1
  have hv2 : W2.heap[bv]? = some (.cells (encI x).toArray 29 (0, 0)) := by rw [hW2, setRow_other W1 g bv _ hne]; exact hv1
  have hgr2 : w.grownBy W2 (some g) := by
    rw [hW2]
    exact grownBy_trans hgr1 ⟨rfl, rfl, rfl, by simp [World.setRow], fun k _ hk => setRow_other W1 g k _ (fun e => hk (by simp [e]))⟩
  have HC2 : Hid ((encI x).length = Nat.min 1 (n + 1 - p) * 28) := Lib.hid (by rw [encI_length, show Nat.min 1 (n + 1 - p) = 1 from Nat.min_eq_left (by omega)])
  have HS2 : Hid (∀ j v, (encI x)[j]? = some v → W2.cell? ((⟨bv, 0, none⟩ : Addr).add j) = some v) := Lib.hid (fun j v hj => by rw [Addr.add_mid]; exact row_range hv2 j v hj)
  have HF2 : Hid (p * 28 + (encI x).length ≤ (splice cur ((p + 1) * 28) (flatE encI D)).length) := Lib.hid (by rw [length_splice _ _ _ HF1.out, hsz, encI_length]; omega)
  have HFIN : Hid (∀ W4, W4 = W2.setRow g (splice (splice cur ((p + 1) * 28) (flatE encI D)) (p * 28) (encI x)).toArray → W4.ownsRow base 29 28 (.slice (some ⟨g, 0, none⟩) (n + 1) c) (n + 1) (flatE encI (P ++ x :: D)) ∧ w.grownBy W4 (some g)) := Lib.hid (by
    rintro W4 rfl
    have hh := setRow_heap W2 g _ (splice (splice cur ((p + 1) * 28) (flatE encI D)) (p * 28) (encI x)).toArray 29 _ hg2
    have he : flatE encI (P ++ x :: D) = flatE encI P ++ (encI x ++ flatE encI D) := by unfold flatE; rw [List.flatMap_append, List.flatMap_cons]
    have hsp := splice_room (flatE encI P) R (encI x) (flatE encI D) (p * 28) ((p + 1) * 28) hfl (by rw [encI_length]; omega) (by rw [encI_length, hdl, hRl]; omega)
    rw [← hR] at hsp
    have hlen : (flatE encI P ++ (encI x ++ flatE encI D)).length = (n + 1) * 28 := by rw [List.length_append, List.length_append, hfl, hdl, encI_length]; omega
    refine ⟨⟨by rw [he]; exact hlen, .inr ⟨g, c, _, rfl, hbase, hh, hc, hcm, ?_, ?_⟩⟩, grownBy_trans hgr2 ⟨rfl, rfl, rfl, by simp [World.setRow], fun k _ hk => setRow_other W2 g k _ (fun e => hk (by simp [e]))⟩⟩
    · rw [List.size_toArray, length_splice _ _ _ HF2.out, length_splice _ _ _ HF1.out, hsz]
    · rw [hsp, he, ← hlen, show flatE encI P ++ (encI x ++ (flatE encI D ++ R.drop ((encI x).length + (flatE encI D).length))) = (flatE encI P ++ (encI x ++ flatE encI D)) ++ R.drop ((encI x).length + (flatE encI D).length) by simp]
      exact List.take_left)
  have hov := fun r => run_overlaps w r bv 0 1 1 g ((p + 1) * 28) (n - p) (c - (p + 1)) _ _ _ _ hv hg hne (by omega) (by omega)
  have HOV := Lib.hid hov
  have HW1 := Lib.hid hW1
  have HW2 := Lib.hid hW2
  have HG1 := Lib.hid hg1
  have HG2 := Lib.hid hg2
  have HDO := flatE_one D
  have hwp : IntKind.i64.wrap ((p : Int) + 1) = (p : Int) + 1 := by rw [IntKind.wrap_i64]; omega
  have hq0 : 0 ≤ (p : Int) + 1 := by omega
  have hq1 : (p : Int) + 1 ≤ (n : Int) + 1 := by omega
  have hq4 : (p : Int) ≤ (n : Int) + 1 := by omega
  have hq2 : ¬ c = p + 1 := by omega
  have hq3 : ¬ c = p := by omega
  clear hW1 hW2 h1h hg1 hg2 hv1 hv2 hgr1 hgr2 hg hv hcur hsz hR hRD hRl hov
  go_enter Tryz.func27, Tryz.ntmps27
  go_upto_region 15 with fail
  rw [run_callFunc_extern Tryz.func52 (by kernel_rfl) (by kernel_rfl) (by kernel_rfl) (e := Extern.SlicesOverlaps.overlaps #[22, 22] #[4]) (by kernel_rfl), HOV.out]
  simp only [Result.andThen]
  rw [Oper.upon_value]
  go_upto_region 15 with fail
  refine region_tail 8 W1 HW1.out (by kernel_rfl) (by kernel_rfl) ?_
  simp only [List.take_succ_cons, List.take_zero, List.drop_succ_cons, List.drop_zero]
  repeat still_step
  refine wpStill_nil ?_
  go_wp2_with (first
    | ((with_reducible refine wpList_copy28 (o := ⟨some 77, _, _, _, _, _⟩) rfl (.tmp 73) (.tmp 76) rfl g ((p + 1) * 28) (n - p) (c - (p + 1)) ⟨g, p * 28, none⟩ (n + 1 - p) (c - p) ?_ ?_ cur (flatE encI D) HG1.out HC1.out HS1.out HF1.out HDO ?_); rfl; rfl; rw [← HW2.out])
    | ((with_reducible refine wpList_copy28 (o := ⟨some 82, _, _, _, _, _⟩) rfl (.tmp 80) (.tmp 81) rfl g (p * 28) (n + 1 - p) (c - p) ⟨bv, 0, none⟩ 1 1 ?_ ?_ _ (encI x) HG2.out HC2.out HS2.out HF2.out (encI_one x) ?_); rfl; rfl))
  go_ret
  obtain ⟨f1, f2⟩ := HFIN.out _ rfl
  exact ⟨_, rfl, f1, f2⟩
end Go.Proofs.YtkceipkgebgigaaGreat
end
section
namespace Go.Proofs.YtkceipkgebgigaaGreat
open Go.Shelf Go.RowKit Go.Lib Go.Great
set_option maxRecDepth 100000
set_option maxHeartbeats 400000
theorem src_atI (x : Ins) (bv : Nat) (w : World) (hv : w.heap[bv]? = some (.cells (encI x).toArray 29 (0, 0))) : Src Tryz.prog 28 22 (.slice (some ⟨bv, 0, none⟩) 1 1) 1 (flatE encI [x]) w := by
  refine Src.ofSlice _ insT.und _ 1 1 (flatE encI [x]) (by rw [flatE_length encI_length]; rfl) (fun j u hu => ?_) (flatE_one _)
  rw [Addr.add_mid]
  have e1 : flatE encI [x] = encI x := by unfold flatE; simp
  rw [e1] at hu
  exact row_range hv j u hu
theorem ins_end (A : Option Addr) (p c base bv : Nat) (P : List Ins) (x : Ins) (w : World) (hp : P.length = p) (hp16 : p ≤ 16) (hA : A = none ∧ p = 0 ∧ c = 0 ∨ ∃ g, A = some ⟨g, 0, none⟩) (hpc : p ≤ c) (hbase : base ≤ w.heap.size)
    (ho : w.ownsRow base 29 28 (.slice A p c) p (flatE encI P)) (hv : w.heap[bv]? = some (.cells (encI x).toArray 29 (0, 0))) :
    Calls Tryz.prog 27 #[.slice A p c, .int .i64 (p : Int), .slice (some ⟨bv, 0, none⟩) 1 1] w fun e w' => ∃ v, e = .returned v ∧ w'.ownsRow base 29 28 v (p + 1) (flatE encI (P ++ [x])) ∧ w.grownBy w' (Value.slice A p c).ownBlock := by
  have HS := Lib.hid (src_atI x bv w hv)
  have HO : Hid (w.ownsRow base 29 28 (.slice A p c) P.length (flatE encI P)) := Lib.hid (by rw [hp]; exact ho)
  have HLE : Hid (P.length + [x].length ≤ 1000000) := Lib.hid (by rw [hp]; simp; omega)
  have HB := Lib.hid hbase
  have HL : Hid ((P ++ [x]).length = p + 1) := Lib.hid (by simp [hp])
  clear ho hv hp hbase
  rcases hA with ⟨rfl, rfl, rfl⟩ | ⟨g, rfl⟩
  · go_enter Tryz.func27, Tryz.ntmps27
    go_wp2_with (first
      | (refine wpList_append_ins insT (o := ⟨some 25, _, _, _, _, _⟩) rfl (.tmp 23) (.tmp 24) rfl base _ P [x] rfl HO.out _ rfl HS.out HLE.out HB.out ?_; intro v5 w5 ho5 hg5))
    go_ret
    rw [HL.out] at ho5
    exact ⟨_, rfl, ho5, hg5⟩
  · by_cases hcp : c = p
    · subst hcp
      go_enter Tryz.func27, Tryz.ntmps27
      go_wp2_with (first
        | (refine wpList_append_ins insT (o := ⟨some 25, _, _, _, _, _⟩) rfl (.tmp 23) (.tmp 24) rfl base _ P [x] rfl HO.out _ rfl HS.out HLE.out HB.out ?_; intro v5 w5 ho5 hg5))
      go_ret
      rw [HL.out] at ho5
      exact ⟨_, rfl, ho5, hg5⟩
    · go_enter Tryz.func27, Tryz.ntmps27
      go_wp2_with (first
        | (refine wpList_append_ins insT (o := ⟨some 25, _, _, _, _, _⟩) rfl (.tmp 23) (.tmp 24) rfl base _ P [x] rfl HO.out _ rfl HS.out HLE.out HB.out ?_; intro v5 w5 ho5 hg5))
      go_ret
      rw [HL.out] at ho5
      exact ⟨_, rfl, ho5, hg5⟩
/-- slices.Insert of one. -/
theorem insert_any (s : Value) (base bv : Nat) (P D : List Ins) (x : Ins) (w : World) (hL : P.length + D.length ≤ 16) (hbase : base ≤ w.heap.size)
    (ho : w.ownsRow base 29 28 s (P.length + D.length) (flatE encI (P ++ D))) (hv : w.heap[bv]? = some (.cells (encI x).toArray 29 (0, 0))) (hne : s.ownBlock ≠ some bv) :
    Calls Tryz.prog 27 #[s, .int .i64 (P.length : Int), .slice (some ⟨bv, 0, none⟩) 1 1] w fun e w' => ∃ v, e = .returned v ∧ w'.ownsRow base 29 28 v (P.length + D.length + 1) (flatE encI (P ++ x :: D)) ∧ w.grownBy w' s.ownBlock := by
  by_cases hd : D = []
  · subst hd
    rw [List.append_nil] at ho
    simp only [List.length_nil, Nat.add_zero] at ho hL ⊢
    rcases id ho.2 with ⟨rfl, h0⟩ | ⟨g, cap, cur, rfl, hb, hg, hc, hm, hs, ht⟩
    · exact ins_end none P.length 0 base bv P x w rfl (by omega) (.inl ⟨rfl, h0, rfl⟩) (by omega) hbase (by rw [h0] at ho ⊢; exact ho) hv |>.mono (fun e w' h => h) |> fun h => by rw [h0] at h ⊢; exact h
    · exact ins_end (some ⟨g, 0, none⟩) P.length cap base bv P x w rfl (by omega) (.inr ⟨g, rfl⟩) hc hbase ho hv
  · have hd0 : 0 < D.length := List.length_pos_iff.2 hd
    rcases ho.2 with ⟨rfl, h0⟩ | ⟨g, cap, cur, rfl, hb, hg, hc, hm, hs, ht⟩
    · omega
    · obtain ⟨l, rfl⟩ : ∃ l : List Value, cur = l.toArray := ⟨cur.toList, by simp⟩
      have hne' : bv ≠ g := fun e => hne (by rw [e]; rfl)
      have hlen : (flatE encI (P ++ D)).length = (P.length + D.length) * 28 := by rw [flatE_length encI_length, List.length_append]
      have ht' : l.take ((P.length + D.length) * 28) = flatE encI (P ++ D) := by simpa using ht
      by_cases hr : P.length + D.length + 1 ≤ cap
      · exact (ins_room g bv P.length D.length cap base l P D x w rfl rfl hd0 hL hr hm hb hne' hg ht' (by simpa using hs) hv).mono (fun e w' h => h)
      · refine (ins_grow g bv P.length D.length cap l P D x w rfl rfl hd0 hL (by omega) hc hg ht' (by simpa using hs) hv).mono ?_
        rintro e w' ⟨v, rfl, h1, h2⟩
        exact ⟨v, rfl, own_baseC h1 hbase, grown_of_bel h2 _⟩
end Go.Proofs.YtkceipkgebgigaaGreat
end
section
namespace Go.Proofs.YtkceipkgebgigaaGreat
open Go.Shelf Go.RowKit Go.Lib Go.Great
set_option maxRecDepth 100000
set_option maxHeartbeats 400000
theorem run_append_room28 (w : World) (ty : TypeId) (g o sLen sCap : Nat) (a : Addr) (m c : Nat) (cur cs : List Value)
    (hg : w.heap[g]? = some (.cells cur.toArray 29 (0, 0))) (hn : cs.length = m * 28) (hroom : sLen + m ≤ sCap)
    (hsrc : ∀ j v, cs[j]? = some v → w.cell? (a.add j) = some v) (hfit : o + sLen * 28 + cs.length ≤ cur.length) (h1 : ∀ v ∈ cs, v.oneCell' = true) :
    (Builtin.append_ #[22, 22] ty #[.slice (some ⟨g, o, none⟩) sLen sCap, .slice (some a) m c]).run Tryz.prog w =
      .ok (.slice (some ⟨g, o, none⟩) (sLen + m) sCap) (w.setRow g (splice cur (o + sLen * 28) cs).toArray) := by
  obtain ⟨i0, hi, hz0, hz1, hz2⟩ := info28i
  have hfc := run_firstCells_some (P := Tryz.prog) w 28 m a m c cs hn hsrc
  have hst := run_storeCells_at Tryz.prog g (o + sLen * 28) 29 cs 0 cur.toArray w hg (by simpa using hfit) h1
  simp only [Nat.add_zero] at hst
  simp [Builtin.append_, run_underlying Tryz.underlying22, sizeOf, typeInfo, hi, Builtin.lenOf, hroom, hfc, Addr.add_lit, hz1, hst, splice]
theorem wpList_append_room28 {w : World} {ops : Array Oper} {rest : List Oper} {o : Oper} {a : Act} {Q : Exit → Act → World → Prop} (hgd : o.guard = none) (s x : Operand)
    (ho : o.op = .call { callee := .builtin .append, args := #[s, x], argTypes := #[22, 22] })
    (g off sLen sCap : Nat) (ad : Addr) (m c N : Nat) (hN : sLen + m = N) (hs : a.eval s = .slice (some ⟨g, off, none⟩) sLen sCap) (hx : a.eval x = .slice (some ad) m c)
    (cur cs : List Value) (hg : w.heap[g]? = some (.cells cur.toArray 29 (0, 0))) (hn : cs.length = m * 28) (hroom : sLen + m ≤ sCap)
    (hsrc : ∀ j v, cs[j]? = some v → w.cell? (ad.add j) = some v) (hfit : off + sLen * 28 + cs.length ≤ cur.length) (h1 : ∀ v ∈ cs, v.oneCell' = true)
    (h : wpList Tryz.prog ops Q rest (a.put o.dst (.slice (some ⟨g, off, none⟩) N sCap)) (w.setRow g (splice cur (off + sLen * 28) cs).toArray)) : wpList Tryz.prog ops Q (o :: rest) a w :=
  wpList_plain hgd fun _ hK => by
    subst hN
    have hrun := run_append_room28 w o.type g off sLen sCap ad m c cur cs hg hn hroom hsrc hfit h1
    unfold Oper.wp
    simp [execOp, ho, resolve, invoke, builtin, hs, hx, hrun, Result.andThen]
    exact hK _ _ h
theorem zeros28 (n : Nat) : (Builtin.zeroCells (Value.agg (encI default).toArray).cells n).toList.length = n * 28 := by simp [Builtin.zeroCells, Value.cells, encI_length]
theorem zeros28_one (n : Nat) : ∀ v ∈ (Builtin.zeroCells (Value.agg (encI default).toArray).cells n).toList, v.oneCell' = true := by
  intro v hv
  simp only [Builtin.zeroCells, Value.cells, Array.toList_map, Array.toList_range, List.mem_map, List.mem_range, List.size_toArray, encI_length] at hv
  obtain ⟨i, _, rfl⟩ := hv
  have hi : i % 28 < (encI default).length := by rw [encI_length]; exact Nat.mod_lt _ (by omega)
  rw [getElem!_pos _ _ (by simpa using hi)]
  exact encI_one default _ (by simp)
theorem run_clear28 (w : World) (ty : TypeId) (g o n c : Nat) (hn : 0 < n) (cur : List Value)
    (hg : w.heap[g]? = some (.cells cur.toArray 29 (0, 0))) (hfit : o + n * 28 ≤ cur.length) :
    ∃ cs : List Value, cs.length = n * 28 ∧ (Builtin.clear_ #[22] ty #[.slice (some ⟨g, o, none⟩) n c]).run Tryz.prog w = .ok (.tuple #[]) (w.setRow g (splice cur o cs).toArray) := by
  obtain ⟨i0, hi, hz0, hz1, hz2⟩ := info28i
  refine ⟨(Builtin.zeroCells (Value.agg (encI default).toArray).cells n).toList, zeros28 n, ?_⟩
  have hst := run_storeCells_at Tryz.prog g o 29 (Builtin.zeroCells (Value.agg (encI default).toArray).cells n).toList 0 cur.toArray w hg (by rw [zeros28, Nat.add_zero, List.size_toArray]; exact hfit) (zeros28_one n)
  simp only [Nat.add_zero] at hst
  obtain ⟨m, rfl⟩ : ∃ m, n = m + 1 := ⟨n - 1, by omega⟩
  generalize hZ : (Builtin.zeroCells (Value.agg (encI default).toArray).cells (m + 1)) = Z at *
  simp [Builtin.clear_, run_underlying Tryz.underlying22, zeroValue, typeInfo, hi, hz0]
  rw [hZ, hst]
  simp [splice]
theorem wpList_clear28 {w : World} {ops : Array Oper} {rest : List Oper} {o : Oper} {a : Act} {Q : Exit → Act → World → Prop} (hgd : o.guard = none) (x : Operand)
    (ho : o.op = .call { callee := .builtin .clear, args := #[x], argTypes := #[22] })
    (g off n c : Nat) (hx : a.eval x = .slice (some ⟨g, off, none⟩) n c) (hn : 0 < n) (cur : List Value) (hg : w.heap[g]? = some (.cells cur.toArray 29 (0, 0))) (hfit : off + n * 28 ≤ cur.length)
    (h : ∀ cs : List Value, cs.length = n * 28 → wpList Tryz.prog ops Q rest (a.put o.dst (.tuple #[])) (w.setRow g (splice cur off cs).toArray)) : wpList Tryz.prog ops Q (o :: rest) a w :=
  wpList_plain hgd fun _ hK => by
    obtain ⟨cs, hcl, hrun⟩ := run_clear28 w o.type g off n c hn cur hg hfit
    unfold Oper.wp
    simp [execOp, ho, resolve, invoke, builtin, hx, hrun, Result.andThen]
    exact hK _ _ (h cs hcl)
theorem del_some (g p d k c base : Nat) (cur : List Value) (P D : List Ins) (x : Ins) (w : World) (hp : P.length = p) (hd : D.length = d) (hk : p + d = k) (hk16 : k ≤ 16) (hc : k + 1 ≤ c) (hcm : c ≤ maxLen) (hbase : base ≤ g)
    (hg : w.heap[g]? = some (.cells cur.toArray 29 (0, 0))) (hcur : cur.take ((k + 1) * 28) = flatE encI (P ++ x :: D)) (hsz : cur.length = c * 28) :
    Calls Tryz.prog 51 #[.slice (some ⟨g, 0, none⟩) (k + 1) c, .int .i64 (p : Int), .int .i64 ((p : Int) + 1)] w fun e w' => ∃ v, e = .returned v ∧ w'.ownsRow base 29 28 v k (flatE encI (P ++ D)) ∧ w.grownBy w' (some g) := by
  have hfl : (flatE encI P).length = p * 28 := by rw [flatE_length encI_length, hp]
  have hdl : (flatE encI D).length = d * 28 := by rw [flatE_length encI_length, hd]
  have hpre : flatE encI (P ++ x :: D) = flatE encI P ++ (encI x ++ flatE encI D) := by unfold flatE; rw [List.flatMap_append, List.flatMap_cons]
  have htp : cur.take (p * 28) = flatE encI P := by
    have h1 : (cur.take ((k + 1) * 28)).take (p * 28) = flatE encI P := by rw [hcur, hpre, ← hfl]; exact List.take_left
    rwa [List.take_take, Nat.min_eq_left (by omega)] at h1
  obtain ⟨W1, hW1⟩ : ∃ W1, W1 = { w with drawn := w.drawn + 1 } := ⟨_, rfl⟩
  have h1h : W1.heap = w.heap := by rw [hW1]
  have hgr1 : w.grownBy W1 (some g) := by rw [hW1]; exact ⟨rfl, rfl, rfl, Nat.le_refl _, fun _ _ _ => rfl⟩
  have hg1 : W1.heap[g]? = some (.cells cur.toArray 29 (0, 0)) := by rw [h1h]; exact hg
  have HC1 : Hid ((flatE encI D).length = (k - p) * 28) := Lib.hid (by rw [hdl]; omega)
  have HS1 : Hid (∀ j v, (flatE encI D)[j]? = some v → W1.cell? ((⟨g, (p + 1) * 28, none⟩ : Addr).add j) = some v) := Lib.hid (fun j v hj => by
    have hlt := (List.getElem?_eq_some_iff.1 hj).1
    rw [hdl] at hlt
    rw [Addr.add_lit, cell_of_row W1 g _ _ 29 (0, 0) hg1]
    have e1 : (cur.take ((k + 1) * 28))[(p + 1) * 28 + j]? = some v := by
      rw [hcur, hpre, List.getElem?_append_right (by rw [hfl]; omega), List.getElem?_append_right (by rw [hfl, encI_length]; omega), hfl, encI_length, show (p + 1) * 28 + j - p * 28 - 28 = j by omega]
      exact hj
    rw [List.getElem?_take] at e1
    split at e1
    · simpa using e1
    · cases e1)
  have HF1 : Hid (0 + p * 28 + (flatE encI D).length ≤ cur.length) := Lib.hid (by rw [hsz, hdl]; omega)
  obtain ⟨X, hX⟩ : ∃ X, X = splice cur (0 + p * 28) (flatE encI D) := ⟨_, rfl⟩
  have hXl : X.length = c * 28 := by rw [hX, length_splice _ _ _ HF1.out, hsz]
  have hXt : X.take (k * 28) = flatE encI (P ++ D) := by
    rw [hX]
    unfold splice
    rw [Nat.zero_add, htp, ← List.append_assoc]
    have hl2 : (flatE encI P ++ flatE encI D).length = k * 28 := by rw [List.length_append, hfl, hdl]; omega
    rw [← hl2, List.take_left]
    unfold flatE
    rw [List.flatMap_append]
  obtain ⟨W2, hW2⟩ : ∃ W2, W2 = W1.setRow g X.toArray := ⟨_, rfl⟩
  have hg2 : W2.heap[g]? = some (.cells X.toArray 29 (0, 0)) := by rw [hW2]; exact setRow_heap W1 g _ _ 29 _ hg1
  have hgr2 : w.grownBy W2 (some g) := by
    rw [hW2]
    exact grownBy_trans hgr1 ⟨rfl, rfl, rfl, by simp [World.setRow], fun k _ hk => setRow_other W1 g k _ (fun e => hk (by simp [e]))⟩
  have HF2 : Hid (k * 28 + 1 * 28 ≤ X.length) := Lib.hid (by rw [hXl]; omega)
  have HFIN : Hid (∀ (cs : List Value), cs.length = 1 * 28 → ∀ W4, W4 = W2.setRow g (splice X (k * 28) cs).toArray → W4.ownsRow base 29 28 (.slice (some ⟨g, 0, none⟩) k c) k (flatE encI (P ++ D)) ∧ w.grownBy W4 (some g)) := Lib.hid (by
    rintro cs hcl W4 rfl
    have hh := setRow_heap W2 g _ (splice X (k * 28) cs).toArray 29 _ hg2
    have hlen : (flatE encI (P ++ D)).length = k * 28 := by rw [flatE_length encI_length, List.length_append, hp, hd, hk]
    refine ⟨⟨hlen, .inr ⟨g, c, _, rfl, hbase, hh, by omega, hcm, ?_, ?_⟩⟩, grownBy_trans hgr2 ⟨rfl, rfl, rfl, by simp [World.setRow], fun k _ hk => setRow_other W2 g k _ (fun e => hk (by simp [e]))⟩⟩
    · rw [List.size_toArray, length_splice _ _ _ (by rw [hcl]; exact HF2.out), hXl]
    · rw [← hXt]
      unfold splice
      have htl : (X.take (k * 28)).length = k * 28 := by rw [List.length_take, Nat.min_eq_left (by rw [hXl]; omega)]
      have := List.take_left (l₁ := X.take (k * 28)) (l₂ := cs ++ X.drop (k * 28 + cs.length))
      rw [htl] at this
      exact this)
  rw [hX] at hW2
  have HW1 := Lib.hid hW1
  have HW2 := Lib.hid hW2
  have HG1 := Lib.hid hg1
  have HG2 := Lib.hid hg2
  have HDO := flatE_one D
  have hwp : IntKind.i64.wrap ((p : Int) + 1) = (p : Int) + 1 := by rw [IntKind.wrap_i64]; omega
  have hq0 : 0 ≤ (p : Int) + 1 := by omega
  have hq1 : (p : Int) + 1 ≤ (k : Int) + 1 := by omega
  have hq4 : (p : Int) ≤ (p : Int) + 1 := by omega
  have hq5 : (p : Int) ≤ (c : Int) := by omega
  have hq6 : (p : Int) ≤ (k : Int) := by omega
  have hq7 : (k : Int) ≤ (k : Int) + 1 := by omega
  have hq8 : (k : Int) + 1 ≤ (c : Int) := by omega
  have hq9 : p + (k - p) = k := by omega
  have hqa : p + (k - p) ≤ c := by omega
  have hqb : ¬ c = k := by omega
  clear hW1 hW2 h1h hg1 hg2 hgr1 hgr2 hg hcur hsz hXt hX hpre htp
  by_cases hcp : c = p + 1
  · have hD0 : D = [] := List.eq_nil_of_length_eq_zero (by omega)
    have HE : Hid (flatE encI D = []) := Lib.hid (by rw [hD0]; rfl)
    have HC0 : Hid ((flatE encI D).length = 0 * 28) := Lib.hid (by rw [HE.out]; rfl)
    have HS0 : Hid (∀ j v, (flatE encI D)[j]? = some v → W1.cell? ((⟨g, 0, none⟩ : Addr).add j) = some v) := Lib.hid (fun j v hj => by rw [HE.out] at hj; cases hj)
    obtain rfl : k = p := by omega
    have HK0 : Hid (k + 0 = k) := Lib.hid rfl
    have HKC : Hid (k + 0 ≤ c) := Lib.hid (by omega)
    subst hcp
    clear hq9 hqa HC1 HS1 hqb hq8 hc hcm hq5 hdl hd hD0 hk hfl hp
    have hqc : (k : Int) ≤ (k : Int) + 1 := by omega
    go_enter Tryz.func51, Tryz.ntmps51
    go_upto_region 5 with fail
    refine region_tail 6 W1 HW1.out (by kernel_rfl) (by kernel_rfl) ?_
    simp only [List.take_succ_cons, List.take_zero, List.drop_succ_cons, List.drop_zero]
    repeat still_step
    refine wpStill_nil ?_
    go_wp2_with (first
      | ((with_reducible refine wpList_append_room28 (o := ⟨some 26, _, _, _, _, _⟩) rfl (.tmp 22) (.tmp 25) rfl g 0 k (k + 1) ⟨g, 0, none⟩ 0 0 k HK0.out ?_ ?_ cur (flatE encI D) HG1.out HC0.out HKC.out HS0.out HF1.out HDO ?_); rfl; rfl; rw [← HW2.out])
      | ((with_reducible refine wpList_clear28 (o := ⟨none, _, _, _, _, _⟩) rfl (.tmp 31) rfl g (k * 28) 1 1 ?_ (by omega) X HG2.out HF2.out ?_); rfl; intro cs hcl))
    go_ret
    obtain ⟨f1, f2⟩ := HFIN.out _ hcl _ rfl
    exact ⟨_, rfl, f1, f2⟩
  · go_enter Tryz.func51, Tryz.ntmps51
    go_upto_region 5 with fail
    refine region_tail 6 W1 HW1.out (by kernel_rfl) (by kernel_rfl) ?_
    simp only [List.take_succ_cons, List.take_zero, List.drop_succ_cons, List.drop_zero]
    repeat still_step
    refine wpStill_nil ?_
    go_wp2_with (first
      | ((with_reducible refine wpList_append_room28 (o := ⟨some 26, _, _, _, _, _⟩) rfl (.tmp 22) (.tmp 25) rfl g 0 p c ⟨g, (p + 1) * 28, none⟩ (k - p) (c - (p + 1)) k hq9 ?_ ?_ cur (flatE encI D) HG1.out HC1.out hqa HS1.out HF1.out HDO ?_); rfl; rfl; rw [← HW2.out])
      | ((with_reducible refine wpList_clear28 (o := ⟨none, _, _, _, _, _⟩) rfl (.tmp 31) rfl g (k * 28) 1 (c - k) ?_ (by omega) X HG2.out HF2.out ?_); rfl; intro cs hcl))
    go_ret
    obtain ⟨f1, f2⟩ := HFIN.out _ hcl _ rfl
    exact ⟨_, rfl, f1, f2⟩
end Go.Proofs.YtkceipkgebgigaaGreat
end
