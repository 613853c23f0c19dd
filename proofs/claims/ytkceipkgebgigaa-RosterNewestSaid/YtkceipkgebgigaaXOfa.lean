/- slices.Delete of one instance. Conditions: a row of one's own, at most 17 instances. fitting of the program. Conditions: a row of one's own, at most 17 instances. -/
import Derived.Test.YtkceipkgebgigaaXOec
section
namespace Go.Proofs.Ytkceipkgebgigaa
open Go.Shelf Go.RowKit Go.Lib Go.Great
set_option maxRecDepth 100000
set_option maxHeartbeats 400000
theorem run_append_room28 (w : World) (ty : TypeId) (g o sLen sCap : Nat) (a : Addr) (m c : Nat) (cur cs : List Value)
    (hg : w.heap[g]? = some (.cells cur.toArray 28 (0, 0))) (hn : cs.length = m * 28) (hroom : sLen + m ≤ sCap)
    (hsrc : ∀ j v, cs[j]? = some v → w.cell? (a.add j) = some v) (hfit : o + sLen * 28 + cs.length ≤ cur.length) (h1 : ∀ v ∈ cs, v.oneCell' = true) :
    (Builtin.append_ #[56, 56] ty #[.slice (some ⟨g, o, none⟩) sLen sCap, .slice (some a) m c]).run Try.prog w =
      .ok (.slice (some ⟨g, o, none⟩) (sLen + m) sCap) (w.setRow g (splice cur (o + sLen * 28) cs).toArray) := by
  obtain ⟨i0, hi, hz0, hz1, hz2⟩ := info28i
  have hfc := run_firstCells_some (P := Try.prog) w 28 m a m c cs hn hsrc
  have hst := run_storeCells_at Try.prog g (o + sLen * 28) 28 cs 0 cur.toArray w hg (by simpa using hfit) h1
  simp only [Nat.add_zero] at hst
  simp [Builtin.append_, run_underlying Try.underlying56, sizeOf, typeInfo, hi, Builtin.lenOf, hroom, hfc, Addr.add_lit, hz1, hst, splice]
theorem wpList_append_room28 {w : World} {ops : Array Oper} {rest : List Oper} {o : Oper} {a : Act} {Q : Exit → Act → World → Prop} (hgd : o.guard = none) (s x : Operand)
    (ho : o.op = .call { callee := .builtin .append, args := #[s, x], argTypes := #[56, 56] })
    (g off sLen sCap : Nat) (ad : Addr) (m c N : Nat) (hN : sLen + m = N) (hs : a.eval s = .slice (some ⟨g, off, none⟩) sLen sCap) (hx : a.eval x = .slice (some ad) m c)
    (cur cs : List Value) (hg : w.heap[g]? = some (.cells cur.toArray 28 (0, 0))) (hn : cs.length = m * 28) (hroom : sLen + m ≤ sCap)
    (hsrc : ∀ j v, cs[j]? = some v → w.cell? (ad.add j) = some v) (hfit : off + sLen * 28 + cs.length ≤ cur.length) (h1 : ∀ v ∈ cs, v.oneCell' = true)
    (h : wpList Try.prog ops Q rest (a.put o.dst (.slice (some ⟨g, off, none⟩) N sCap)) (w.setRow g (splice cur (off + sLen * 28) cs).toArray)) : wpList Try.prog ops Q (o :: rest) a w :=
  wpList_plain hgd fun _ hK => by
    subst hN
    have hrun := run_append_room28 w o.type g off sLen sCap ad m c cur cs hg hn hroom hsrc hfit h1
    unfold Oper.wp
    simp [execOp, ho, resolve, invoke, builtin, hs, hx, hrun, Result.andThen]
    exact hK _ _ h
theorem zeros28 (n : Nat) : (Builtin.zeroCells (Value.agg (encI default).toArray).cells n).toList.length = n * 28 := by simp [Builtin.zeroCells, Value.cells, encI_length]
theorem zeros28_one (n : Nat) : ∀ v ∈ (Builtin.zeroCells (Value.agg (encI default).toArray).cells n).toList, v.oneCell' = true := by
  intro v hv
  simp only [Builtin.zeroCells, Value.cells, Array.toList_map, Array.toList_range, List.mem_map, List.mem_range, List.size_toArray, encI_length] at hv
  obtain ⟨i, _, rfl⟩ := hv
  have hi : i % 28 < (encI default).length := by rw [encI_length]; exact Nat.mod_lt _ (by omega)
  rw [getElem!_pos _ _ (by simpa using hi)]
  exact encI_one default _ (by simp)
theorem run_clear28 (w : World) (ty : TypeId) (g o n c : Nat) (hn : 0 < n) (cur : List Value)
    (hg : w.heap[g]? = some (.cells cur.toArray 28 (0, 0))) (hfit : o + n * 28 ≤ cur.length) :
    ∃ cs : List Value, cs.length = n * 28 ∧ (Builtin.clear_ #[56] ty #[.slice (some ⟨g, o, none⟩) n c]).run Try.prog w = .ok (.tuple #[]) (w.setRow g (splice cur o cs).toArray) := by
  obtain ⟨i0, hi, hz0, hz1, hz2⟩ := info28i
  refine ⟨(Builtin.zeroCells (Value.agg (encI default).toArray).cells n).toList, zeros28 n, ?_⟩
  have hst := run_storeCells_at Try.prog g o 28 (Builtin.zeroCells (Value.agg (encI default).toArray).cells n).toList 0 cur.toArray w hg (by rw [zeros28, Nat.add_zero, List.size_toArray]; exact hfit) (zeros28_one n)
  simp only [Nat.add_zero] at hst
  obtain ⟨m, rfl⟩ : ∃ m, n = m + 1 := ⟨n - 1, by omega⟩
  generalize hZ : (Builtin.zeroCells (Value.agg (encI default).toArray).cells (m + 1)) = Z at *
  simp [Builtin.clear_, run_underlying Try.underlying56, zeroValue, typeInfo, hi, hz0]
  rw [hZ, hst]
  simp [splice]
theorem wpList_clear28 {w : World} {ops : Array Oper} {rest : List Oper} {o : Oper} {a : Act} {Q : Exit → Act → World → Prop} (hgd : o.guard = none) (x : Operand)
    (ho : o.op = .call { callee := .builtin .clear, args := #[x], argTypes := #[56] })
    (g off n c : Nat) (hx : a.eval x = .slice (some ⟨g, off, none⟩) n c) (hn : 0 < n) (cur : List Value) (hg : w.heap[g]? = some (.cells cur.toArray 28 (0, 0))) (hfit : off + n * 28 ≤ cur.length)
    (h : ∀ cs : List Value, cs.length = n * 28 → wpList Try.prog ops Q rest (a.put o.dst (.tuple #[])) (w.setRow g (splice cur off cs).toArray)) : wpList Try.prog ops Q (o :: rest) a w :=
  wpList_plain hgd fun _ hK => by
    obtain ⟨cs, hcl, hrun⟩ := run_clear28 w o.type g off n c hn cur hg hfit
    unfold Oper.wp
    simp [execOp, ho, resolve, invoke, builtin, hx, hrun, Result.andThen]
    exact hK _ _ (h cs hcl)
theorem del_some (g p d k c base : Nat) (cur : List Value) (P D : List Ins) (x : Ins) (w : World) (hp : P.length = p) (hd : D.length = d) (hk : p + d = k) (hk16 : k ≤ 16) (hc : k + 1 ≤ c) (hcm : c ≤ maxLen) (hbase : base ≤ g)
    (hg : w.heap[g]? = some (.cells cur.toArray 28 (0, 0))) (hcur : cur.take ((k + 1) * 28) = flatE encI (P ++ x :: D)) (hsz : cur.length = c * 28) :
    Calls Try.prog 103 #[.slice (some ⟨g, 0, none⟩) (k + 1) c, .int .i64 (p : Int), .int .i64 ((p : Int) + 1)] w fun e w' => ∃ v, e = .returned v ∧ w'.ownsRow base 28 28 v k (flatE encI (P ++ D)) ∧ w.grownBy w' (some g) := by
  have hfl : (flatE encI P).length = p * 28 := by rw [flatE_length encI_length, hp]
  have hdl : (flatE encI D).length = d * 28 := by rw [flatE_length encI_length, hd]
  have hpre : flatE encI (P ++ x :: D) = flatE encI P ++ (encI x ++ flatE encI D) := by unfold flatE; rw [List.flatMap_append, List.flatMap_cons]
  have htp : cur.take (p * 28) = flatE encI P := by
    have h1 : (cur.take ((k + 1) * 28)).take (p * 28) = flatE encI P := by rw [hcur, hpre, ← hfl]; exact List.take_left
    rwa [List.take_take, Nat.min_eq_left (by omega)] at h1
  obtain ⟨W1, hW1⟩ : ∃ W1, W1 = { w with drawn := w.drawn + 1 } := ⟨_, rfl⟩
  have h1h : W1.heap = w.heap := by rw [hW1]
  have hgr1 : w.grownBy W1 (some g) := by rw [hW1]; exact ⟨rfl, rfl, rfl, Nat.le_refl _, fun _ _ _ => rfl⟩
  have hg1 : W1.heap[g]? = some (.cells cur.toArray 28 (0, 0)) := by rw [h1h]; exact hg
  have HC1 : Hid ((flatE encI D).length = (k - p) * 28) := Lib.hid (by rw [hdl]; omega)
  have HS1 : Hid (∀ j v, (flatE encI D)[j]? = some v → W1.cell? ((⟨g, (p + 1) * 28, none⟩ : Addr).add j) = some v) := Lib.hid (fun j v hj => by
    have hlt := (List.getElem?_eq_some_iff.1 hj).1
    rw [hdl] at hlt
    rw [Addr.add_lit, cell_of_row W1 g _ _ 28 (0, 0) hg1]
    have e1 : (cur.take ((k + 1) * 28))[(p + 1) * 28 + j]? = some v := by
      rw [hcur, hpre, List.getElem?_append_right (by rw [hfl]; omega), List.getElem?_append_right (by rw [hfl, encI_length]; omega), hfl, encI_length, show (p + 1) * 28 + j - p * 28 - 28 = j by omega]
      exact hj
    rw [List.getElem?_take] at e1
    split at e1
    · simpa using e1
    · cases e1)
  have HF1 : Hid (0 + p * 28 + (flatE encI D).length ≤ cur.length) := Lib.hid (by rw [hsz, hdl]; omega)
  obtain ⟨X, hX⟩ : ∃ X, X = splice cur (0 + p * 28) (flatE encI D) := ⟨_, rfl⟩
  have hXl : X.length = c * 28 := by rw [hX, length_splice _ _ _ HF1.out, hsz]
  have hXt : X.take (k * 28) = flatE encI (P ++ D) := by
    rw [hX]
    unfold splice
    rw [Nat.zero_add, htp, ← List.append_assoc]
    have hl2 : (flatE encI P ++ flatE encI D).length = k * 28 := by rw [List.length_append, hfl, hdl]; omega
    rw [← hl2, List.take_left]
    unfold flatE
    rw [List.flatMap_append]
  obtain ⟨W2, hW2⟩ : ∃ W2, W2 = W1.setRow g X.toArray := ⟨_, rfl⟩
  have hg2 : W2.heap[g]? = some (.cells X.toArray 28 (0, 0)) := by rw [hW2]; exact setRow_heap W1 g _ _ 28 _ hg1
  have hgr2 : w.grownBy W2 (some g) := by
    rw [hW2]
    exact grownBy_trans hgr1 ⟨rfl, rfl, rfl, by simp [World.setRow], fun k _ hk => setRow_other W1 g k _ (fun e => hk (by simp [e]))⟩
  have HF2 : Hid (k * 28 + 1 * 28 ≤ X.length) := Lib.hid (by rw [hXl]; omega)
  have HFIN : Hid (∀ (cs : List Value), cs.length = 1 * 28 → ∀ W4, W4 = W2.setRow g (splice X (k * 28) cs).toArray → W4.ownsRow base 28 28 (.slice (some ⟨g, 0, none⟩) k c) k (flatE encI (P ++ D)) ∧ w.grownBy W4 (some g)) := Lib.hid (by
    rintro cs hcl W4 rfl
    have hh := setRow_heap W2 g _ (splice X (k * 28) cs).toArray 28 _ hg2
    have hlen : (flatE encI (P ++ D)).length = k * 28 := by rw [flatE_length encI_length, List.length_append, hp, hd, hk]
    refine ⟨⟨hlen, .inr ⟨g, c, _, rfl, hbase, hh, by omega, hcm, ?_, ?_⟩⟩, grownBy_trans hgr2 ⟨rfl, rfl, rfl, by simp [World.setRow], fun k _ hk => setRow_other W2 g k _ (fun e => hk (by simp [e]))⟩⟩
    · rw [List.size_toArray, length_splice _ _ _ (by rw [hcl]; exact HF2.out), hXl]
    · rw [← hXt]
      unfold splice
      have htl : (X.take (k * 28)).length = k * 28 := by rw [List.length_take, Nat.min_eq_left (by rw [hXl]; omega)]
      have := List.take_left (l₁ := X.take (k * 28)) (l₂ := cs ++ X.drop (k * 28 + cs.length))
      rw [htl] at this
      exact this)
  rw [hX] at hW2
  have HW1 := Lib.hid hW1
  have HW2 := Lib.hid hW2
  have HG1 := Lib.hid hg1
  have HG2 := Lib.hid hg2
  have HDO := flatE_one D
  have hwp : IntKind.i64.wrap ((p : Int) + 1) = (p : Int) + 1 := by rw [IntKind.wrap_i64]; omega
  have hq0 : 0 ≤ (p : Int) + 1 := by omega
  have hq1 : (p : Int) + 1 ≤ (k : Int) + 1 := by omega
  have hq4 : (p : Int) ≤ (p : Int) + 1 := by omega
  have hq5 : (p : Int) ≤ (c : Int) := by omega
  have hq6 : (p : Int) ≤ (k : Int) := by omega
  have hq7 : (k : Int) ≤ (k : Int) + 1 := by omega
  have hq8 : (k : Int) + 1 ≤ (c : Int) := by omega
  have hq9 : p + (k - p) = k := by omega
  have hqa : p + (k - p) ≤ c := by omega
  have hqb : ¬ c = k := by omega
  clear hW1 hW2 h1h hg1 hg2 hgr1 hgr2 hg hcur hsz hXt hX hpre htp
  by_cases hcp : c = p + 1
  · have hD0 : D = [] := List.eq_nil_of_length_eq_zero (by omega)
    have HE : Hid (flatE encI D = []) := Lib.hid (by rw [hD0]; rfl)
    have HC0 : Hid ((flatE encI D).length = 0 * 28) := Lib.hid (by rw [HE.out]; rfl)
    have HS0 : Hid (∀ j v, (flatE encI D)[j]? = some v → W1.cell? ((⟨g, 0, none⟩ : Addr).add j) = some v) := Lib.hid (fun j v hj => by rw [HE.out] at hj; cases hj)
    obtain rfl : k = p := by omega
    have HK0 : Hid (k + 0 = k) := Lib.hid rfl
    have HKC : Hid (k + 0 ≤ c) := Lib.hid (by omega)
    subst hcp
    clear hq9 hqa HC1 HS1 hqb hq8 hc hcm hq5 hdl hd hD0 hk hfl hp
    have hqc : (k : Int) ≤ (k : Int) + 1 := by omega
    go_enter Try.func103, Try.ntmps103
    go_upto_region 5 with fail
    refine region_tail 6 W1 HW1.out (by kernel_rfl) (by kernel_rfl) ?_
    simp only [List.take_succ_cons, List.take_zero, List.drop_succ_cons, List.drop_zero]
    repeat still_step
    refine wpStill_nil ?_
    go_wp2_with (first
      | ((with_reducible refine wpList_append_room28 (o := ⟨some 26, _, _, _, _, _⟩) rfl (.tmp 22) (.tmp 25) rfl g 0 k (k + 1) ⟨g, 0, none⟩ 0 0 k HK0.out ?_ ?_ cur (flatE encI D) HG1.out HC0.out HKC.out HS0.out HF1.out HDO ?_); rfl; rfl; rw [← HW2.out])
      | ((with_reducible refine wpList_clear28 (o := ⟨none, _, _, _, _, _⟩) rfl (.tmp 31) rfl g (k * 28) 1 1 ?_ (by omega) X HG2.out HF2.out ?_); rfl; intro cs hcl))
    go_ret
    obtain ⟨f1, f2⟩ := HFIN.out _ hcl _ rfl
    exact ⟨_, rfl, f1, f2⟩
  · go_enter Try.func103, Try.ntmps103
    go_upto_region 5 with fail
    refine region_tail 6 W1 HW1.out (by kernel_rfl) (by kernel_rfl) ?_
    simp only [List.take_succ_cons, List.take_zero, List.drop_succ_cons, List.drop_zero]
    repeat still_step
    refine wpStill_nil ?_
    go_wp2_with (first
      | ((with_reducible refine wpList_append_room28 (o := ⟨some 26, _, _, _, _, _⟩) rfl (.tmp 22) (.tmp 25) rfl g 0 p c ⟨g, (p + 1) * 28, none⟩ (k - p) (c - (p + 1)) k hq9 ?_ ?_ cur (flatE encI D) HG1.out HC1.out hqa HS1.out HF1.out HDO ?_); rfl; rfl; rw [← HW2.out])
      | ((with_reducible refine wpList_clear28 (o := ⟨none, _, _, _, _, _⟩) rfl (.tmp 31) rfl g (k * 28) 1 (c - k) ?_ (by omega) X HG2.out HF2.out ?_); rfl; intro cs hcl))
    go_ret
    obtain ⟨f1, f2⟩ := HFIN.out _ hcl _ rfl
    exact ⟨_, rfl, f1, f2⟩
end Go.Proofs.Ytkceipkgebgigaa
end
section
namespace Go.Proofs.Ytkceipkgebgigaa
open Go.Shelf Go.RowKit Go.Lib Go.Great
set_option maxRecDepth 100000
set_option maxHeartbeats 1000000
/-- The last one of those that end first, among the first k. -/
def lastMin (L : List Ins) : Nat → Nat
  | 0 => 0
  | k + 1 => if endI L[k]! ≤ endI L[lastMin L k]! then k else lastMin L k
theorem lastMin_lt (L : List Ins) : ∀ k, 0 < k → lastMin L k < k
  | 0, h => by omega
  | k + 1, _ => by
    unfold lastMin
    split
    · omega
    · rcases Nat.eq_zero_or_pos k with rfl | h
      · unfold lastMin; omega
      · have := lastMin_lt L k h; omega
theorem lastMin_le (L : List Ins) (k n : Nat) (h : k ≤ n) (hn : 0 < n) : lastMin L k < n := by
  rcases Nat.eq_zero_or_pos k with rfl | h0
  · unfold lastMin; exact hn
  · have := lastMin_lt L k h0; omega
/-- As many as a roster may have. -/
def fitL (L : List Ins) : List Ins := if L.length ≤ 16 then L else L.eraseIdx (lastMin L L.length)
theorem fit_few (A : Option Addr) (n c : Nat) (w : World) (hn : n ≤ 16) : Calls Try.prog 80 #[.slice A n c] w fun e w' => e = .returned (.slice A n c) ∧ w' = w := by
  have hn' : (n : Int) ≤ 16 := by omega
  go_enter Try.func80, Try.ntmps80
  go_wp2
  go_ret
  exact ⟨rfl, rfl⟩
theorem fit_many (g n c base : Nat) (L : List Ins) (w : World) (hn : L.length = n) (h16 : 16 < n) (h17 : n ≤ 17) (hbase : base ≤ g)
    (ho : w.ownsRow base 28 28 (.slice (some ⟨g, 0, none⟩) n c) n (flatE encI L)) :
    Calls Try.prog 80 #[.slice (some ⟨g, 0, none⟩) n c] w fun e w' => ∃ v, e = .returned v ∧ w'.ownsRow base 28 28 v (n - 1) (flatE encI (L.eraseIdx (lastMin L n))) ∧ w.grownBy w' (some g) := by
  obtain ⟨A0, c0, hv0, hn0, hc0, hm0, hform⟩ := own_formI ho
  obtain ⟨hgl, hr⟩ : g < w.heap.size ∧ w.rangeAt g 0 (flatE encI L) := by
    rcases hform with ⟨e, _⟩ | ⟨g', e, _, h1, h2⟩
    · rw [e] at hv0; cases hv0
    · rw [e] at hv0
      injection hv0 with e1
      injection e1 with e1
      injection e1 with e1
      subst e1
      exact ⟨h1, h2⟩
  have HLD : Hid (∀ k, k < n → ∀ W, Below w.heap.size w W → (loadVar 28 ⟨g, k * 28, none⟩).run Try.prog W = .ok (.agg (encI L[k]!).toArray) W) := Lib.hid (fun k hk W hW => by have := row_load hr hgl hW (k := k) (by omega); rwa [Nat.zero_add] at this)
  have HEN : Hid (∀ (k : Nat) (W : World), Calls Try.prog 16 #[.agg (encI L[k]!).toArray] W fun e w' => e = .returned (.int .u64 (endI L[k]! : Int)) ∧ Below W.heap.size W w') := Lib.hid (fun k W => (end_any L[k]! W).mono (by rintro e w' ⟨rfl, rfl⟩; exact ⟨rfl, (Below.refl _ W).alloc (Nat.le_refl _) _⟩))
  have HLM : Hid (∀ k, k ≤ n → lastMin L k < n) := Lib.hid (fun k hk => lastMin_le L k n hk (by omega))
  have HDEL : Hid (∀ W, Below w.heap.size w W → Calls Try.prog 103 #[.slice (some ⟨g, 0, none⟩) n c, .int .i64 (lastMin L n : Int), .int .i64 ((lastMin L n : Int) + 1)] W fun e w' => ∃ v, e = .returned v ∧ w'.ownsRow base 28 28 v (n - 1) (flatE encI (L.eraseIdx (lastMin L n))) ∧ w.grownBy w' (some g)) := by
    refine Lib.hid (fun W hW => ?_)
    have hf := lastMin_le L n n (Nat.le_refl _) (by omega)
    generalize lastMin L n = f at hf ⊢
    rcases ho.2 with ⟨e, _⟩ | ⟨g', cap, cur, e, hb, hg, hc, hm, hs, ht⟩
    · cases e
    · injection e with e1 _ e3
      injection e1 with e1
      injection e1 with e1
      subst e1 e3
      obtain ⟨l, rfl⟩ : ∃ l : List Value, cur = l.toArray := ⟨cur.toList, by simp⟩
      have hsplit : L = L.take f ++ L[f]! :: L.drop (f + 1) := by
        rw [getElem!_pos L f (by omega), ← List.drop_eq_getElem_cons (by omega), List.take_append_drop]
      have hlen : (flatE encI L).length = n * 28 := by rw [flatE_length encI_length, hn]
      have ht' : l.take (n * 28) = flatE encI L := by simpa using ht
      have he : L.eraseIdx f = L.take f ++ L.drop (f + 1) := List.eraseIdx_eq_take_drop_succ L f
      have := del_some g f (n - 1 - f) (n - 1) c base l (L.take f) (L.drop (f + 1)) L[f]! W (by rw [List.length_take]; omega) (by rw [List.length_drop]; omega) (by omega) (by omega) (by omega) hm hbase (by rw [hW.block g hgl]; exact hg) (by rw [← hsplit, show n - 1 + 1 = n by omega]; exact ht') (by simpa using hs)
      rw [show n - 1 + 1 = n by omega] at this
      refine this.mono ?_
      rintro e w' ⟨v, rfl, h1, h2⟩
      rw [he]
      exact ⟨v, rfl, h1, grownBy_trans (grown_of_bel hW (some g)) h2⟩
  have hln : ¬ (n : Int) ≤ 16 := by omega
  have hwl : IntKind.i64.wrap ((lastMin L n : Int) + 1) = (lastMin L n : Int) + 1 := by
    have := lastMin_le L n n (Nat.le_refl _) (by omega)
    rw [IntKind.wrap_i64]; omega
  clear ho hform hr hv0 hn0 hc0 hm0
  go_enter Try.func80, Try.ntmps80
  go_wp2
  go_loopw [3, 12] (fun f i wr => ∃ k : Nat, f = .int .i64 (lastMin L k : Int) ∧ i = .int .i64 (k : Int) ∧ k ≤ n ∧ Below w.heap.size w wr) (fun _ i _ => n - (RowKit.intOf i).toNat)
  case atStart => exact ⟨0, rfl, rfl, by omega, Below.refl _ _⟩
  case round =>
    obtain ⟨k, rfl, rfl, hk, hbr⟩ := hrel
    by_cases hlt : k < n
    · have hlt' : (k : Int) < (n : Int) := by omega
      have hfn := HLM.out k hk
      have hnew := heap_alloc_new wr (.cells (encI L[k]!).toArray 28)
      have hbn : Below w.heap.size w (wr.alloc (.cells (encI L[k]!).toArray 28)) := hbr.alloc hbr.size _
      have HBN := Lib.hid hbn
      have HQ5 : Hid (∀ q : Kept (wr.alloc (.cells (encI L[k]!).toArray 28)).heap.size (wr.alloc (.cells (encI L[k]!).toArray 28)), (loadVar 28 ⟨wr.heap.size, 0, none⟩).run Try.prog q.val = .ok (.agg (encI L[k]!).toArray) q.val) := Lib.hid (fun q =>
        load28 (row_range (by rw [q.property.block _ (Array.getElem?_eq_some_iff.1 hnew).1]; exact hnew)))
      have HLDV := Lib.hid (HLD.out k hlt wr hbr)
      have HQ21 : Hid (∀ q : Kept (wr.alloc (.cells (encI L[k]!).toArray 28)).heap.size (wr.alloc (.cells (encI L[k]!).toArray 28)), (loadVar 28 ⟨g, lastMin L k * 28, none⟩).run Try.prog q.val = .ok (.agg (encI L[lastMin L k]!).toArray) q.val) := Lib.hid (fun q => HLD.out _ hfn _ (hbn.trans (q.property.mono hbn.size)))
      have HE1 := Lib.hid (HEN.out k)
      have HE2 := Lib.hid (HEN.out (lastMin L k))
      have HNX : Hid (∀ wx, Below w.heap.size w wx → ∃ k' : Nat, Value.int .i64 (if endI L[k]! ≤ endI L[lastMin L k]! then (k : Int) else (lastMin L k : Int)) = .int .i64 (lastMin L k' : Int) ∧ Value.int .i64 ((k : Int) + 1) = .int .i64 (k' : Int) ∧ k' ≤ n ∧ Below w.heap.size w wx) := Lib.hid (fun wx hx => ⟨k + 1, by
        congr 1
        rw [show lastMin L (k + 1) = if endI L[k]! ≤ endI L[lastMin L k]! then k else lastMin L k from rfl]
        split <;> rfl, by simp, by omega, hx⟩)
      obtain ⟨Y, hY⟩ : ∃ Y : Ins, Y = L[k]! := ⟨_, rfl⟩
      rw [← hY] at HNX HE1 HQ5 HBN HLDV HQ21
      obtain ⟨f, hf⟩ : ∃ f, f = lastMin L k := ⟨_, rfl⟩
      rw [← hf] at HNX HE2 HQ21 hfn ⊢
      obtain ⟨Z, hZ⟩ : ∃ Z : Ins, Z = L[f]! := ⟨_, rfl⟩
      rw [← hZ] at HNX HE2 HQ21
      have hfi : (f : Int) < (n : Int) := by omega
      clear hbn hnew hY hf hZ HLD HEN HLM HDEL hbr hwl
      by_cases hle : endI Y ≤ endI Z
      · have hle' : (endI Y : Int) ≤ (endI Z : Int) := by omega
        rw [if_pos hle] at HNX
        clear hle
        go_upto_region 7 with (first
          | ((with_reducible refine wpList_loadV (op := ⟨some 16, _, _, _, _, _⟩) rfl 28 (.tmp 15) rfl _ ?_ _ HLDV.out ?_); rfl)
          | (with_reducible refine wpList_alloc28 (o := ⟨some 5, _, _, _, _, _⟩) wr.heap.size rfl rfl 5 rfl rfl ?_)
          | ((with_reducible refine wpList_store28n (o := ⟨none, _, _, _, _, _⟩) rfl (.tmp 5) (.tmp 16) rfl wr.heap.size rfl zeroI Y ?_ ?_ ?_); rfl; rfl))
        generalize (encI Y).toArray = YA at *
        generalize (encI Z).toArray = ZA at *
        generalize wr.alloc (.cells YA 28) = W2 at *
        simp only [Act.put, List.setIfInBounds_toArray, List.set_cons_zero, List.set_cons_succ]
        refine wp_region_kept W2.heap.size W2 (Below.refl _ _) (by kernel_rfl) (by kernel_rfl) ?_
        repeat (first
          | (go_big_quiet_want; (with_reducible refine quiet_loadV 28 (.tmp 5) rfl _ ?_ _ HQ5.out ?_); rfl; simp only [Act.put, List.setIfInBounds_toArray, List.set_cons_zero, List.set_cons_succ]; go_big_quiet_on)
          | (go_big_quiet_want; (with_reducible refine quiet_loadV 28 (.tmp 21) rfl _ ?_ _ HQ21.out ?_); rfl; simp only [Act.put, List.setIfInBounds_toArray, List.set_cons_zero, List.set_cons_succ]; go_big_quiet_on)
          | go_big_quiet_step (first | (go_at_call 16; with_reducible exact kept_of (Nat.le_refl _) HE1.out _) | (go_at_call 16; with_reducible exact kept_of (Nat.le_refl _) HE2.out _)))
        refine wpQuiet_nil ?_
        rintro wk ⟨⟨_, hwk⟩, rfl⟩
        have HBW := Lib.hid (HNX.out _ (HBN.out.trans (hwk.mono HBN.out.size)))
        clear hwk
        go_wp2
        go_roundw
        case rel => exact HBW.out
        case measure => simp [RowKit.intOf]; omega
      · have hle' : ¬ (endI Y : Int) ≤ (endI Z : Int) := by omega
        rw [if_neg hle] at HNX
        clear hle
        go_upto_region 7 with (first
          | ((with_reducible refine wpList_loadV (op := ⟨some 16, _, _, _, _, _⟩) rfl 28 (.tmp 15) rfl _ ?_ _ HLDV.out ?_); rfl)
          | (with_reducible refine wpList_alloc28 (o := ⟨some 5, _, _, _, _, _⟩) wr.heap.size rfl rfl 5 rfl rfl ?_)
          | ((with_reducible refine wpList_store28n (o := ⟨none, _, _, _, _, _⟩) rfl (.tmp 5) (.tmp 16) rfl wr.heap.size rfl zeroI Y ?_ ?_ ?_); rfl; rfl))
        generalize (encI Y).toArray = YA at *
        generalize (encI Z).toArray = ZA at *
        generalize wr.alloc (.cells YA 28) = W2 at *
        simp only [Act.put, List.setIfInBounds_toArray, List.set_cons_zero, List.set_cons_succ]
        refine wp_region_kept W2.heap.size W2 (Below.refl _ _) (by kernel_rfl) (by kernel_rfl) ?_
        repeat (first
          | (go_big_quiet_want; (with_reducible refine quiet_loadV 28 (.tmp 5) rfl _ ?_ _ HQ5.out ?_); rfl; simp only [Act.put, List.setIfInBounds_toArray, List.set_cons_zero, List.set_cons_succ]; go_big_quiet_on)
          | (go_big_quiet_want; (with_reducible refine quiet_loadV 28 (.tmp 21) rfl _ ?_ _ HQ21.out ?_); rfl; simp only [Act.put, List.setIfInBounds_toArray, List.set_cons_zero, List.set_cons_succ]; go_big_quiet_on)
          | go_big_quiet_step (first | (go_at_call 16; with_reducible exact kept_of (Nat.le_refl _) HE1.out _) | (go_at_call 16; with_reducible exact kept_of (Nat.le_refl _) HE2.out _)))
        refine wpQuiet_nil ?_
        rintro wk ⟨⟨_, hwk⟩, rfl⟩
        have HBW := Lib.hid (HNX.out _ (HBN.out.trans (hwk.mono HBN.out.size)))
        clear hwk
        go_wp2
        go_roundw
        case rel => exact HBW.out
        case measure => simp [RowKit.intOf]; omega
    · obtain rfl : k = n := by omega
      have hlt' : ¬ (k : Int) < (k : Int) := by omega
      have HD := Lib.hid (HDEL.out _ hbr)
      clear HDEL HLD HEN HLM hbr
      go_wp2_with (first | (go_at_call 103; (with_reducible refine HD.out.mono ?_); rintro e5 w5 ⟨v5, rfl, ho5, hg5⟩))
      go_ret
      exact ⟨v5, rfl, ho5, hg5⟩
/-- fitting of the program. -/
theorem fit_any (v : Value) (base : Nat) (L : List Ins) (w : World) (h17 : L.length ≤ 17) (ho : w.ownsRow base 28 28 v L.length (flatE encI L)) :
    Calls Try.prog 80 #[v] w fun e w' => ∃ v', e = .returned v' ∧ w'.ownsRow base 28 28 v' (fitL L).length (flatE encI (fitL L)) ∧ w.grownBy w' v.ownBlock := by
  by_cases h16 : L.length ≤ 16
  · have he : fitL L = L := if_pos h16
    obtain ⟨A, c, hv, hn, hc, hm, hform⟩ := own_formI ho
    rw [he]
    subst hv
    refine (fit_few A L.length c w h16).mono ?_
    rintro e w' ⟨rfl, rfl⟩
    exact ⟨_, rfl, ho, World.grownBy.refl _ _⟩
  · have he : fitL L = L.eraseIdx (lastMin L L.length) := if_neg h16
    have hf := lastMin_le L L.length L.length (Nat.le_refl _) (by omega)
    have hl : (fitL L).length = L.length - 1 := by rw [he, List.length_eraseIdx, if_pos hf]
    rcases id ho.2 with ⟨_, h0⟩ | ⟨g, cap, cur, rfl, hb, hg, hc, hm, hs, ht⟩
    · omega
    · rw [hl, he]
      exact fit_many g L.length cap base L w rfl (by omega) h17 hb ho
end Go.Proofs.Ytkceipkgebgigaa
end
