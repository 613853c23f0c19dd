/- slices.Equal and Same of the program at instances. No condition. The library's own steps on rows of instances: copy; append of a made row; whether two rows share memory. Conditions: rows of their own. slices.Insert at instances, where the row grows. Conditions: at most 16 instances; one that is inserted. Whether two rows share memory. Conditions: rows of their own. -/
import Derived.Test.YtkceipkgebgigaaGreatProg
import Derived.Test.YtkceipkgebgigaaGreatXObc
import Derived.Test.YtkceipkgebgigaaGreatXOaa
import Derived.Test.YtkceipkgebgigaaGreatXIil
import Derived.Laws.CopyOwn
import Derived.Test.YtkceipkgebgigaaGreatXIig
section
namespace Go.Proofs.YtkceipkgebgigaaGreat
open Go.Shelf Go.RowKit Go.Lib Go.Great
set_option maxRecDepth 100000
set_option maxHeartbeats 400000
/-- The same instances, in the same order. -/
def sameR (xs ys : List Ins) : Bool := decide (xs.length = ys.length) && (List.range xs.length).all (fun k => eqI xs[k]! ys[k]!)
theorem sameR_iff (xs ys : List Ins) : sameR xs ys = true ↔ xs = ys := by
  unfold sameR
  rw [Bool.and_eq_true, decide_eq_true_eq, List.all_eq_true]
  constructor
  · rintro ⟨h1, h2⟩
    apply List.ext_getElem h1
    intro k hk hk'
    have := h2 k (by simpa using hk)
    rw [eqI_iff, getElem!_pos xs k hk, getElem!_pos ys k hk'] at this
    exact this
  · rintro rfl
    exact ⟨rfl, fun k _ => eqI_self _⟩
theorem eq_len (A A' : Option Addr) (n m c c' : Nat) (w : World) (h : n ≠ m) : Calls Tryz.prog 39 #[.slice A n c, .slice A' m c'] w fun e w' => e = .returned (.bool false) ∧ w' = w := by
  have h' : ¬ (n : Int) = (m : Int) := by omega
  go_enter Tryz.func39, Tryz.ntmps39
  go_wp2
  go_ret
  exact ⟨rfl, rfl⟩
theorem eq_none (A A' : Option Addr) (c c' : Nat) (w : World) : Calls Tryz.prog 39 #[.slice A 0 c, .slice A' 0 c'] w fun e w' => e = .returned (.bool true) ∧ w' = w := by
  go_enter Tryz.func39, Tryz.ntmps39
  go_wp2
  go_loopg [13] 0 (fun _ s wr => s = .int .i64 0 ∧ wr = w)
  case atStart => exact ⟨rfl, rfl⟩
  case round =>
    obtain ⟨rfl, rfl⟩ := hrel
    go_wp2
    go_ret
    exact ⟨rfl, rfl⟩
theorem eq_some (g1 o1 c1 g2 o2 c2 n : Nat) (xs ys : List Ins) (w : World) (hx : xs.length = n) (hy : ys.length = n) (hn : n ≤ 10000) (hg1 : g1 < w.heap.size) (hr1 : w.rangeAt g1 o1 (flatE encI xs)) (hg2 : g2 < w.heap.size) (hr2 : w.rangeAt g2 o2 (flatE encI ys)) :
    Calls Tryz.prog 39 #[.slice (some ⟨g1, o1, none⟩) n c1, .slice (some ⟨g2, o2, none⟩) n c2] w fun e w' => e = .returned (.bool (sameR xs ys)) ∧ Below w.heap.size w w' := by
  have HL1 : Hid (∀ k, k < n → ∀ W, Below w.heap.size w W → (loadVar 29 ⟨g1, o1 + k * 28, none⟩).run Tryz.prog W = .ok (.agg (encI xs[k]!).toArray) W) := Lib.hid (fun k hk W hW => row_load hr1 hg1 hW (by omega))
  have HL2 : Hid (∀ k, k < n → ∀ W, Below w.heap.size w W → (loadVar 29 ⟨g2, o2 + k * 28, none⟩).run Tryz.prog W = .ok (.agg (encI ys[k]!).toArray) W) := Lib.hid (fun k hk W hW => row_load hr2 hg2 hW (by omega))
  have HT : Hid ((∀ k, k < n → eqI xs[k]! ys[k]! = true) → sameR xs ys = true) := Lib.hid (fun h => by
    unfold sameR
    rw [Bool.and_eq_true, decide_eq_true_eq, List.all_eq_true]
    exact ⟨by omega, fun k hk => h k (by rw [List.mem_range] at hk; omega)⟩)
  have HF : Hid (∀ k, k < n → eqI xs[k]! ys[k]! = false → sameR xs ys = false) := Lib.hid (fun k hk h => by
    cases hs : sameR xs ys with
    | false => rfl
    | true => rw [(sameR_iff xs ys).1 hs, eqI_self] at h; cases h)
  generalize sameR xs ys = r at *
  clear hr1 hr2
  go_enter Tryz.func39, Tryz.ntmps39
  go_wp2
  go_loopw [13] (fun i wr => ∃ k : Nat, i = .int .i64 (k : Int) ∧ k ≤ n ∧ (∀ j, j < k → eqI xs[j]! ys[j]! = true) ∧ Below w.heap.size w wr) (fun i _ => n - (RowKit.intOf i).toNat)
  case atStart => exact ⟨0, rfl, by omega, fun j hj => by omega, Below.refl _ _⟩
  case round =>
    obtain ⟨k, rfl, hk, hF, hbr⟩ := hrel
    have HD := Lib.hid hF
    clear hF
    by_cases hlt : k < n
    · have hlt' : (k : Int) < (n : Int) := by omega
      have HBN := Lib.hid hbr
      have HQ1 : Hid (∀ q : Kept wr.heap.size wr, (loadVar 29 ⟨g1, o1 + k * 28, none⟩).run Tryz.prog q.val = .ok (.agg (encI xs[k]!).toArray) q.val) := Lib.hid (fun q => HL1.out k hlt _ (HBN.out.trans (q.property.mono HBN.out.size)))
      have HQ2 : Hid (∀ q : Kept wr.heap.size wr, (loadVar 29 ⟨g2, o2 + k * 28, none⟩).run Tryz.prog q.val = .ok (.agg (encI ys[k]!).toArray) q.val) := Lib.hid (fun q => HL2.out k hlt _ (HBN.out.trans (q.property.mono HBN.out.size)))
      have he := fun W => eqIns xs[k]! ys[k]! W
      have HNX : Hid (eqI xs[k]! ys[k]! = true → ∀ wx, Below w.heap.size w wx → ∃ k' : Nat, Value.int .i64 ((k : Int) + 1) = .int .i64 (k' : Int) ∧ k' ≤ n ∧ (∀ j, j < k' → eqI xs[j]! ys[j]! = true) ∧ Below w.heap.size w wx) := Lib.hid (fun h wx hx => ⟨k + 1, by simp, by omega, fun j hj => by
        by_cases e : j = k
        · subst e; exact h
        · exact HD.out j (by omega), hx⟩)
      have HRF := Lib.hid (HF.out k hlt)
      clear HT HF HD HL1 HL2 hbr
      cases hq : eqI xs[k]! ys[k]! with
      | false =>
        rw [hq] at he
        have HRR : Hid (r = false) := Lib.hid (HRF.out hq)
        clear HRF HNX hq
        generalize (encI xs[k]!).toArray = X at *
        generalize (encI ys[k]!).toArray = Y at *
        go_upto_region 6 with fail
        refine wp_region_kept wr.heap.size wr (Below.refl _ _) (by kernel_rfl) (by kernel_rfl) ?_
        repeat (first
          | (go_big_quiet_want; (with_reducible refine quiet_loadV 29 (.tmp 18) rfl _ ?_ _ HQ1.out ?_); rfl; simp only [Act.put, List.setIfInBounds_toArray, List.set_cons_zero, List.set_cons_succ]; go_big_quiet_on)
          | (go_big_quiet_want; (with_reducible refine quiet_loadV 29 (.tmp 22) rfl _ ?_ _ HQ2.out ?_); rfl; simp only [Act.put, List.setIfInBounds_toArray, List.set_cons_zero, List.set_cons_succ]; go_big_quiet_on)
          | go_big_quiet_step (fail))
        refine wpQuiet_nil ?_
        rintro wk ⟨⟨_, hwk⟩, rfl⟩
        go_wp2
        go_ret
        exact ⟨by rw [HRR.out]; rfl, HBN.out.trans (hwk.mono HBN.out.size)⟩
      | true =>
        rw [hq] at he
        have HNY := Lib.hid (HNX.out hq)
        clear HRF HNX hq
        generalize (encI xs[k]!).toArray = X at *
        generalize (encI ys[k]!).toArray = Y at *
        go_upto_region 6 with fail
        refine wp_region_kept wr.heap.size wr (Below.refl _ _) (by kernel_rfl) (by kernel_rfl) ?_
        repeat (first
          | (go_big_quiet_want; (with_reducible refine quiet_loadV 29 (.tmp 18) rfl _ ?_ _ HQ1.out ?_); rfl; simp only [Act.put, List.setIfInBounds_toArray, List.set_cons_zero, List.set_cons_succ]; go_big_quiet_on)
          | (go_big_quiet_want; (with_reducible refine quiet_loadV 29 (.tmp 22) rfl _ ?_ _ HQ2.out ?_); rfl; simp only [Act.put, List.setIfInBounds_toArray, List.set_cons_zero, List.set_cons_succ]; go_big_quiet_on)
          | go_big_quiet_step (fail))
        refine wpQuiet_nil ?_
        rintro wk ⟨⟨_, hwk⟩, rfl⟩
        have HBW := Lib.hid (HNY.out _ (HBN.out.trans (hwk.mono HBN.out.size)))
        clear hwk
        go_wp2
        go_roundw
        case rel => exact HBW.out
        case measure => simp [RowKit.intOf]; omega
    · have hlt' : ¬ (k : Int) < (n : Int) := by omega
      have HRT : Hid (r = true) := Lib.hid (HT.out (fun j hj => HD.out j (by omega)))
      have HBR := Lib.hid hbr
      clear HT HF HD HL1 HL2 hbr
      go_wp2
      go_ret
      exact ⟨by rw [HRT.out]; rfl, HBR.out⟩
theorem eq_any (A A' : Option Addr) (c c' : Nat) (xs ys : List Ins) (w : World) (hx : xs.length ≤ 10000) (hA : IAt w w.heap.size A xs) (hA' : IAt w w.heap.size A' ys) :
    Calls Tryz.prog 39 #[.slice A xs.length c, .slice A' ys.length c'] w fun e w' => e = .returned (.bool (sameR xs ys)) ∧ Below w.heap.size w w' := by
  by_cases h : xs.length = ys.length
  · rcases hA with rfl | ⟨g1, o1, rfl, hg1, hr1⟩
    · have hy : ys = [] := List.eq_nil_of_length_eq_zero (by simpa using h.symm)
      subst hy
      refine (eq_none A A' c c' w).mono ?_
      rintro e w' ⟨rfl, rfl⟩
      exact ⟨rfl, Below.refl _ _⟩
    · rcases hA' with rfl | ⟨g2, o2, rfl, hg2, hr2⟩
      · have hx0 : xs = [] := List.eq_nil_of_length_eq_zero (by simpa using h)
        subst hx0
        refine (eq_none _ A' c c' w).mono ?_
        rintro e w' ⟨rfl, rfl⟩
        exact ⟨rfl, Below.refl _ _⟩
      · rw [← h]
        exact eq_some g1 o1 c g2 o2 c' xs.length xs ys w rfl h.symm hx hg1 hr1 hg2 hr2
  · have hs : sameR xs ys = false := by unfold sameR; rw [decide_eq_false h, Bool.false_and]
    rw [hs]
    refine (eq_len A A' _ _ c c' w h).mono ?_
    rintro e w' ⟨rfl, rfl⟩
    exact ⟨rfl, Below.refl _ _⟩
theorem same_any (A A' : Option Addr) (c c' : Nat) (xs ys : List Ins) (w : World) (hx : xs.length ≤ 10000) (hA : IAt w w.heap.size A xs) (hA' : IAt w w.heap.size A' ys) :
    Calls Tryz.prog 15 #[.slice A xs.length c, .slice A' ys.length c'] w fun e w' => e = .returned (.bool (sameR xs ys)) ∧ Below w.heap.size w w' := by
  have H := Lib.hid (eq_any A A' c c' xs ys w hx hA hA')
  clear hA hA'
  go_enter Tryz.func15, Tryz.ntmps15
  go_wp2_with (first | (go_at_call 39; (with_reducible refine H.out.mono ?_); rintro e w1 ⟨rfl, hb1⟩))
  go_ret
  exact ⟨rfl, hb1⟩
end Go.Proofs.YtkceipkgebgigaaGreat
end
section
namespace Go.Proofs.YtkceipkgebgigaaGreat
open Go.Shelf Go.RowKit Go.Lib Go.Great
set_option maxRecDepth 100000
set_option maxHeartbeats 2000000
theorem run_copy28 (w : World) (ty : TypeId) (g o dLen dCap : Nat) (a : Addr) (sLen sCap : Nat) (cur : List Value) (cs : List Value)
    (hg : w.heap[g]? = some (.cells cur.toArray 29 (0, 0))) (hn : cs.length = Nat.min sLen dLen * 28)
    (hsrc : ∀ j v, cs[j]? = some v → w.cell? (a.add j) = some v) (hfit : o + cs.length ≤ cur.length) (h1 : ∀ v ∈ cs, v.oneCell' = true) :
    (Builtin.copy_ #[22, 22] ty #[.slice (some ⟨g, o, none⟩) dLen dCap, .slice (some a) sLen sCap]).run Tryz.prog w =
      .ok (goInt (Nat.min sLen dLen)) (w.setRow g (splice cur o cs).toArray) := by
  obtain ⟨i0, hi, hz0, hz1, hz2⟩ := info28i
  have hl := run_loadCells_list (P := Tryz.prog) w a cs hsrc
  have hst := run_storeCells_at Tryz.prog g o 29 cs 0 cur.toArray w hg (by simpa using hfit) h1
  simp only [Nat.add_zero] at hst
  simp [Builtin.copy_, run_underlying Tryz.underlying22, Builtin.lenOf, Builtin.firstCells, sizeOf, typeInfo, hi, hz1, ← hn, hl, hst, splice]
theorem wpList_copy28 {w : World} {ops : Array Oper} {rest : List Oper} {o : Oper} {a : Act} {Q : Exit → Act → World → Prop} (hgd : o.guard = none) (d s : Operand)
    (ho : o.op = .call { callee := .builtin .copy, args := #[d, s], argTypes := #[22, 22] })
    (g off dLen dCap : Nat) (ad : Addr) (sLen sCap : Nat) (hd : a.eval d = .slice (some ⟨g, off, none⟩) dLen dCap) (hs : a.eval s = .slice (some ad) sLen sCap)
    (cur cs : List Value) (hg : w.heap[g]? = some (.cells cur.toArray 29 (0, 0))) (hn : cs.length = Nat.min sLen dLen * 28)
    (hsrc : ∀ j v, cs[j]? = some v → w.cell? (ad.add j) = some v) (hfit : off + cs.length ≤ cur.length) (h1 : ∀ v ∈ cs, v.oneCell' = true)
    (h : wpList Tryz.prog ops Q rest (a.put o.dst (goInt (Nat.min sLen dLen))) (w.setRow g (splice cur off cs).toArray)) : wpList Tryz.prog ops Q (o :: rest) a w :=
  wpList_plain hgd fun _ hK => by
    have hrun := run_copy28 w o.type g off dLen dCap ad sLen sCap cur cs hg hn hsrc hfit h1
    unfold Oper.wp
    simp [execOp, ho, resolve, invoke, builtin, hd, hs, hrun, Result.andThen]
    exact hK _ _ h
theorem step_copy28 {ops : Array Oper} {o : Oper} {a : Act} {w : World} {K : Act → World → Prop} {Q : Exit → Act → World → Prop} {E : Prop} (hgd : o.guard = none) (d s : Operand)
    (ho : o.op = .call { callee := .builtin .copy, args := #[d, s], argTypes := #[22, 22] })
    (g off dLen dCap : Nat) (ad : Addr) (sLen sCap : Nat) (hd : a.eval d = .slice (some ⟨g, off, none⟩) dLen dCap) (hs : a.eval s = .slice (some ad) sLen sCap)
    (cur cs : List Value) (hg : w.heap[g]? = some (.cells cur.toArray 29 (0, 0))) (hn : cs.length = Nat.min sLen dLen * 28)
    (hsrc : ∀ j v, cs[j]? = some v → w.cell? (ad.add j) = some v) (hfit : off + cs.length ≤ cur.length) (h1 : ∀ v ∈ cs, v.oneCell' = true)
    (h : K (a.put o.dst (goInt (Nat.min sLen dLen))) (w.setRow g (splice cur off cs).toArray)) :
    if Region.wanted o (yielded ops a.tmps) = true then Oper.wp Tryz.prog o a w K Q else E := by
  have hw : Region.wanted o (yielded ops a.tmps) = true := by simp [Region.wanted, hgd]
  rw [if_pos hw]
  have hrun := run_copy28 w o.type g off dLen dCap ad sLen sCap cur cs hg hn hsrc hfit h1
  unfold Oper.wp
  simp [execOp, ho, resolve, invoke, builtin, hd, hs, hrun, Result.andThen]
  exact h
/-- append(s, make([]T, k)...), where it grows. -/
theorem run_append_make (w : World) (ty : TypeId) (b : Addr) (sLen sCap k : Nat) (olds : List Value) (hlo : olds.length = sLen * 28) (holds : ∀ j v, olds[j]? = some v → w.cell? (b.add j) = some v)
    (hg : sCap < sLen + k) (hk : sLen + k ≤ 1000) (hk1 : 0 < k) :
    ∃ c Z, (Builtin.append_ #[22, 3] ty #[.slice (some b) sLen sCap, .int .i64 (k : Int)]).run Tryz.prog w = .ok (.slice (some ⟨w.heap.size, 0, none⟩) (sLen + k) c) (w.drew.alloc (.cells (olds ++ Z).toArray 29)) ∧ sLen + k ≤ c ∧ c ≤ maxLen ∧ Z.length = (c - sLen) * 28 := by
  obtain ⟨i0, hi, hz0, hz1, hz2⟩ := info28i
  have hge := grownCap_ge w (sLen + k) sCap 29
  have hcm : grownCap w (sLen + k) sCap 29 ≤ maxLen := grownCap_le_maxLen w (sLen + k) sCap 29 (by simp only [maxLen]; omega)
  have hn : ¬ (sLen + k ≤ sCap) := by omega
  have hwr : IntKind.i64.wrap (k : Int) = (k : Int) := by
    rw [IntKind.wrap_i64]; omega
  have h63' : ¬ (9223372036854775807 < ((sLen : Int) + (k : Int))) := by omega
  have hns : Builtin.nextslicecap (sLen + k) sCap * i0.bytes ≤ 281474976710656 := growslice_fits hg (by rw [hz2]; omega)
  have h48' : ¬ (281474976710656 < Builtin.nextslicecap (sLen + k) sCap * i0.bytes) := by omega
  have h48k : ¬ (281474976710656 < (k : Int) * (i0.bytes : Int)) := by rw [hz2]; omega
  have hfo := run_firstCells_some (P := Tryz.prog) w.drew i0.size sLen b sLen sCap olds (by rw [hz1]; exact hlo) (by simpa using holds)
  have hk0 : ¬ ((k : Int) < 0) := by omega
  have hzl : ∀ m, (Builtin.zeroCells (encI default).toArray m).size = m * 28 := fun m => by simp [Builtin.zeroCells, encI_length]
  refine ⟨grownCap w (sLen + k) sCap 29, (Builtin.zeroCells (encI default).toArray k).toList ++ (Builtin.zeroCells (encI default).toArray (grownCap w (sLen + k) sCap 29 - (sLen + k))).toList, ?_, hge, hcm, ?_⟩
  · have hzc := hzl k
    have hk28 : ¬ (k * i0.size = 0) := by rw [hz1]; omega
    have hk29 : ¬ (k = 0 ∨ i0.size = 0) := by rw [hz1]; omega
    simp [Builtin.append_, run_underlying Tryz.underlying22, run_underlying Tryz.underlying3, sizeOf, typeInfo, zeroValue, hi, hz0, asInt, asIntOf, hwr, hk0, h48k, hn, h63', h48', Question.forced, hfo, newRow, grownCap, hk28, hk29]
    congr 2
    apply Array.ext'
    simp [Value.cells]
  · rw [List.length_append, Array.length_toList, Array.length_toList, hzl, hzl, ← Nat.add_mul]
    congr 1
    omega
end Go.Proofs.YtkceipkgebgigaaGreat
end
section
namespace Go.Proofs.YtkceipkgebgigaaGreat
open Go.Shelf Go.RowKit Go.Lib Go.Great
set_option maxRecDepth 100000
set_option maxHeartbeats 200000
theorem wpList_append_make {w : World} {ops : Array Oper} {rest : List Oper} {o : Oper} {a : Act} {Q : Exit → Act → World → Prop} (hgd : o.guard = none) (s x : Operand)
    (ho : o.op = .call { callee := .builtin .append, args := #[s, x], argTypes := #[22, 3] })
    (b sLen sCap k N : Nat) (z : Int) (hs : a.eval s = .slice (some ⟨b, 0, none⟩) sLen sCap) (hx : a.eval x = .int .i64 z) (hz : z = (k : Int)) (hN : sLen + k = N)
    (olds : List Value) (hlo : olds.length = sLen * 28) (holds : ∀ j v, olds[j]? = some v → w.cell? ⟨b, 0 + j, none⟩ = some v) (hg : sCap < N) (hk : N ≤ 1000) (hk1 : 0 < k)
    (h : ∀ c Z W', N ≤ c → c ≤ maxLen → Z.length = (c - sLen) * 28 → W'.heap[w.heap.size]? = some (.cells (olds ++ Z).toArray 29 (0, 0)) → Below w.heap.size w W' → wpList Tryz.prog ops Q rest (a.put o.dst (.slice (some ⟨w.heap.size, 0, none⟩) N c)) W') : wpList Tryz.prog ops Q (o :: rest) a w :=
  wpList_plain hgd fun _ hK => by
    subst hz hN
    obtain ⟨c, Z, hrun, h1, h2, h3⟩ := run_append_make w o.type ⟨b, 0, none⟩ sLen sCap k olds hlo (fun j v hj => by rw [Addr.add_mid]; exact holds j v hj) hg hk hk1
    unfold Oper.wp
    simp [execOp, ho, resolve, invoke, builtin, hs, hx, hrun, Result.andThen]
    exact hK _ _ (h c Z _ h1 h2 h3 (heap_alloc_new w.drew _) (((Below.refl _ w).drew).alloc (by simp) _))
theorem splice_ins (A Z X D : List Value) (a b : Nat) (ha : A.length = a) (hb : a + X.length = b) (hz : X.length + D.length ≤ Z.length) : splice (splice (A ++ Z) a X) b D = A ++ (X ++ (D ++ Z.drop (X.length + D.length))) := by
  subst ha hb
  have e1 : splice (A ++ Z) A.length X = A ++ (X ++ Z.drop X.length) := by
    unfold splice
    rw [List.take_left, List.drop_append, List.drop_eq_nil_of_le (by omega)]
    simp
  rw [e1]
  unfold splice
  rw [show A ++ (X ++ Z.drop X.length) = (A ++ X) ++ Z.drop X.length by simp, show A.length + X.length = (A ++ X).length by simp, List.take_left, List.drop_append, List.drop_eq_nil_of_le (by omega)]
  simp
theorem ins_grow (g bv p d c : Nat) (cur : List Value) (P D : List Ins) (x : Ins) (w : World) (hp : P.length = p) (hd : D.length = d) (hd0 : 0 < d) (hpd : p + d ≤ 16) (hc : c < p + d + 1) (hcn : p + d ≤ c)
    (hg : w.heap[g]? = some (.cells cur.toArray 29 (0, 0))) (hcur : cur.take ((p + d) * 28) = flatE encI (P ++ D)) (hsz : cur.length = c * 28) (hv : w.heap[bv]? = some (.cells (encI x).toArray 29 (0, 0))) :
    Calls Tryz.prog 27 #[.slice (some ⟨g, 0, none⟩) (p + d) c, .int .i64 (p : Int), .slice (some ⟨bv, 0, none⟩) 1 1] w fun e w' => ∃ v, e = .returned v ∧ w'.ownsRow w.heap.size 29 28 v (p + d + 1) (flatE encI (P ++ x :: D)) ∧ Below w.heap.size w w' := by
  have hi1 : (p : Int) ≤ ((p + d : Nat) : Int) := by omega
  have hi2 : ¬ ((p : Int) = ((p + d : Nat) : Int)) := by omega
  have hi3 : ((p + d : Nat) : Int) + 1 > (c : Int) := by omega
  have hfl : (flatE encI P).length = p * 28 := by rw [flatE_length encI_length, hp]
  have hcells : ∀ j v, (flatE encI P)[j]? = some v → w.cell? ⟨g, 0 + j, none⟩ = some v := fun j v hj => by
    have hlt := (List.getElem?_eq_some_iff.1 hj).1
    rw [hfl] at hlt
    rw [Nat.zero_add, cell_of_row w g j _ 29 (0, 0) hg]
    have e1 : (cur.take ((p + d) * 28))[j]? = some v := by
      rw [hcur]
      unfold flatE at hj ⊢
      rw [List.flatMap_append, List.getElem?_append_left (by exact (List.getElem?_eq_some_iff.1 hj).1)]
      exact hj
    rw [List.getElem?_take] at e1
    split at e1
    · simpa using e1
    · cases e1
  generalize hn : p + d = n at *
  have HP := Lib.hid hcells
  have HPL := Lib.hid hfl
  have hz : (n : Int) + 1 - (p : Int) = ((d + 1 : Nat) : Int) := by omega
  have HZ := Lib.hid hz
  have hN : p + (d + 1) = n + 1 := by omega
  go_enter Tryz.func27, Tryz.ntmps27
  go_upto_region 10 with (first
    | ((with_reducible refine wpList_append_make (o := ⟨some 40, _, _, _, _, _⟩) rfl (.tmp 34) (.tmp 39) rfl g p c (d + 1) (n + 1) ((d : Int) + 1) ?_ ?_ ?_ hN (flatE encI P) HPL.out HP.out hc ?_ ?_ ?_); rfl; rfl; rfl; omega; omega; intro c1 Z W1 h1 h2 h3 h4 h5))
  have hbv : bv < w.heap.size := (Array.getElem?_eq_some_iff.1 hv).1
  have hgl : g < w.heap.size := (Array.getElem?_eq_some_iff.1 hg).1
  have hv1 : W1.heap[bv]? = some (.cells (encI x).toArray 29 (0, 0)) := by rw [h5.block bv hbv]; exact hv
  have hg1 : W1.heap[g]? = some (.cells cur.toArray 29 (0, 0)) := by rw [h5.block g hgl]; exact hg
  have HC1 : Hid ((encI x).length = Nat.min 1 (n + 1 - p) * 28) := Lib.hid (by rw [encI_length, show Nat.min 1 (n + 1 - p) = 1 from Nat.min_eq_left (by omega)])
  have HS1 : Hid (∀ j v, (encI x)[j]? = some v → W1.cell? ((⟨bv, 0, none⟩ : Addr).add j) = some v) := Lib.hid (fun j v hj => by rw [Addr.add_mid]; exact row_range hv1 j v hj)
  have HF1 : Hid (p * 28 + (encI x).length ≤ (flatE encI P ++ Z).length) := Lib.hid (by rw [encI_length, List.length_append, hfl, h3]; omega)
  have hcl : (c1 - p) * 28 = Z.length := h3.symm
  obtain ⟨W2, hW2⟩ : ∃ W2, W2 = W1.setRow w.heap.size (splice (flatE encI P ++ Z) (p * 28) (encI x)).toArray := ⟨_, rfl⟩
  have HW2 := Lib.hid hW2
  have h4b : W2.heap[w.heap.size]? = some (.cells (splice (flatE encI P ++ Z) (p * 28) (encI x)).toArray 29 (0, 0)) := by rw [hW2]; exact setRow_heap W1 w.heap.size _ _ 29 _ h4
  have h5b : Below w.heap.size w W2 := by rw [hW2]; exact below_setRow h5 (Nat.le_refl _) _
  have H4 := Lib.hid h4
  clear hW2
  go_upto_region 11 with (first
    | ((with_reducible refine wpList_copy28 (o := ⟨some 45, _, _, _, _, _⟩) rfl (.tmp 43) (.tmp 44) rfl w.heap.size (p * 28) (n + 1 - p) (c1 - p) ⟨bv, 0, none⟩ 1 1 ?_ ?_ (flatE encI P ++ Z) (encI x) H4.out HC1.out HS1.out HF1.out (encI_one x) ?_); rfl; rfl; rw [← HW2.out]))
  have hdl : (flatE encI D).length = d * 28 := by rw [flatE_length encI_length, hd]
  obtain ⟨W3, hW3⟩ : ∃ W3, W3 = { W2 with drawn := W2.drawn + 1 } := ⟨_, rfl⟩
  have h3h : W3.heap = W2.heap := by rw [hW3]
  have h4c : W3.heap[w.heap.size]? = some (.cells (splice (flatE encI P ++ Z) (p * 28) (encI x)).toArray 29 (0, 0)) := by rw [h3h]; exact h4b
  have hg3 : W3.heap[g]? = some (.cells cur.toArray 29 (0, 0)) := by rw [h3h, h5b.block g hgl]; exact hg
  have h5c : Below w.heap.size w W3 := by rw [hW3]; exact h5b.drew
  have hsl : (splice (flatE encI P ++ Z) (p * 28) (encI x)).length = c1 * 28 := by
    rw [length_splice _ _ _ HF1.out, List.length_append, hfl, h3]
    omega
  have HC2 : Hid ((flatE encI D).length = Nat.min (n - p) (n - p) * 28) := Lib.hid (by rw [hdl, show Nat.min (n - p) (n - p) = d by rw [show Nat.min (n - p) (n - p) = n - p from Nat.min_self _]; omega])
  have HS2 : Hid (∀ j v, (flatE encI D)[j]? = some v → W3.cell? ((⟨g, p * 28, none⟩ : Addr).add j) = some v) := Lib.hid (fun j v hj => by
    have hlt := (List.getElem?_eq_some_iff.1 hj).1
    rw [hdl] at hlt
    rw [Addr.add_lit, cell_of_row W3 g _ _ 29 (0, 0) hg3]
    have e1 : (cur.take (n * 28))[p * 28 + j]? = some v := by
      rw [hcur]
      unfold flatE at hj hfl ⊢
      rw [List.flatMap_append, List.getElem?_append_right (by rw [hfl]; omega), hfl, Nat.add_sub_cancel_left]
      exact hj
    rw [List.getElem?_take] at e1
    split at e1
    · simpa using e1
    · cases e1)
  have HF2 : Hid ((p + 1) * 28 + (flatE encI D).length ≤ (splice (flatE encI P ++ Z) (p * 28) (encI x)).length) := Lib.hid (by rw [hsl, hdl]; omega)
  have HFIN : Hid (∀ W4, W4 = W3.setRow w.heap.size (splice (splice (flatE encI P ++ Z) (p * 28) (encI x)) ((p + 1) * 28) (flatE encI D)).toArray → W4.ownsRow w.heap.size 29 28 (.slice (some ⟨w.heap.size, 0, none⟩) (n + 1) c1) (n + 1) (flatE encI (P ++ x :: D)) ∧ Below w.heap.size w W4) := Lib.hid (by
    rintro W4 rfl
    have hh := setRow_heap W3 w.heap.size _ (splice (splice (flatE encI P ++ Z) (p * 28) (encI x)) ((p + 1) * 28) (flatE encI D)).toArray 29 _ h4c
    have he : flatE encI (P ++ x :: D) = flatE encI P ++ (encI x ++ flatE encI D) := by unfold flatE; rw [List.flatMap_append, List.flatMap_cons]
    have hsp := splice_ins (flatE encI P) Z (encI x) (flatE encI D) (p * 28) ((p + 1) * 28) hfl (by rw [encI_length]; omega) (by rw [encI_length, hdl, h3]; omega)
    have hlen : (flatE encI P ++ (encI x ++ flatE encI D)).length = (n + 1) * 28 := by rw [List.length_append, List.length_append, hfl, hdl, encI_length]; omega
    refine ⟨⟨by rw [he]; exact hlen, .inr ⟨w.heap.size, c1, _, rfl, Nat.le_refl _, hh, h1, h2, ?_, ?_⟩⟩, below_setRow h5c (Nat.le_refl _) _⟩
    · rw [List.size_toArray, length_splice _ _ _ HF2.out, hsl]
    · rw [hsp, he, ← hlen, show flatE encI P ++ (encI x ++ (flatE encI D ++ Z.drop ((encI x).length + (flatE encI D).length))) = (flatE encI P ++ (encI x ++ flatE encI D)) ++ Z.drop ((encI x).length + (flatE encI D).length) by simp]
      exact List.take_left)
  have HW3 := Lib.hid hW3
  have H4C := Lib.hid h4c
  have HDO := flatE_one D
  clear hW3 h3h h4c hg3 h5c hsl h4 h4b h5 h5b hv1 hg1 hv hg hcur hcells hbv hgl
  simp only [Act.put, List.setIfInBounds_toArray, List.set_cons_zero, List.set_cons_succ]
  refine region_tail 8 W3 HW3.out (by kernel_rfl) (by kernel_rfl) ?_
  simp only [List.take_succ_cons, List.take_zero, List.drop_succ_cons, List.drop_zero]
  have hwp : IntKind.i64.wrap ((p : Int) + 1) = (p : Int) + 1 := by rw [IntKind.wrap_i64]; omega
  have hq0 : 0 ≤ (p : Int) + 1 := by omega
  have hq1 : (p : Int) + 1 ≤ (n : Int) + 1 := by omega
  have hq2 : ¬ c1 = p + 1 := by omega
  have hq3 : ¬ c = p := by omega
  repeat still_step
  refine wpStill_nil ?_
  go_wp2_with (first
    | ((with_reducible refine wpList_copy28 (o := ⟨some 54, _, _, _, _, _⟩) rfl (.tmp 50) (.tmp 53) rfl w.heap.size ((p + 1) * 28) (n - p) (c1 - (p + 1)) ⟨g, p * 28, none⟩ (n - p) (c - p) ?_ ?_ _ (flatE encI D) H4C.out HC2.out HS2.out HF2.out HDO ?_); rfl; rfl))
  go_ret
  obtain ⟨f1, f2⟩ := HFIN.out _ rfl
  exact ⟨_, rfl, f1, f2⟩
end Go.Proofs.YtkceipkgebgigaaGreat
end
section
namespace Go.Proofs.YtkceipkgebgigaaGreat
open Go.Shelf Go.RowKit Go.Lib Go.Great
set_option maxRecDepth 100000
set_option maxHeartbeats 400000
theorem run_overlaps (w : World) (r : Array TypeId) (a oa la ca b ob lb cb : Nat) (X Y : Array Value) (t t' : TypeId) (ha : w.heap[a]? = some (.cells X t (0, 0))) (hb : w.heap[b]? = some (.cells Y t' (0, 0))) (hne : a ≠ b) (hla : 0 < la) (hlb : 0 < lb) :
    (Extern.SlicesOverlaps.overlaps #[22, 22] r #[.slice (some ⟨a, oa, none⟩) la ca, .slice (some ⟨b, ob, none⟩) lb cb]).run Tryz.prog w = .ok (.bool false) w := by
  obtain ⟨i0, hi, hz0, hz1, hz2⟩ := info28i
  have h1 : ¬ (la = 0 ∨ lb = 0 ∨ i0.size = 0) := by rw [hz1]; omega
  have fa : ∀ o, w.frozen? ⟨a, o, none⟩ = false := fun o => by simp [World.frozen?, ha]
  have fb : ∀ o, w.frozen? ⟨b, o, none⟩ = false := fun o => by simp [World.frozen?, hb]
  have sa : w.shape? a = some (t, X.size) := by simp [World.shape?, ha]
  have sb : w.shape? b = some (t', Y.size) := by simp [World.shape?, hb]
  have va : Sem.run Tryz.prog (viewAt a) w = .ok none w := by simp [viewAt, sa]
  have vb : Sem.run Tryz.prog (viewAt b) w = .ok none w := by simp [viewAt, sb]
  change Sem.run Tryz.prog (show Sem Value from do
    let .slice elem ← underlying 22 | stuck "slices.overlaps: slice type expected"
    let size ← sizeOf elem
    if la = 0 ∨ lb = 0 ∨ size = 0 then pure (Value.bool false)
    else if (⟨a, oa, none⟩ : Addr).block != (⟨b, ob, none⟩ : Addr).block && (← frozen ⟨a, oa, none⟩) && (← frozen ⟨b, ob, none⟩) then unsupported .addressObserved
    else do
      if (⟨a, oa, none⟩ : Addr).block != (⟨b, ob, none⟩ : Addr).block then do
        noView ⟨a, oa, none⟩; noView ⟨b, ob, none⟩
        if ← mayBeOne ⟨a, oa, none⟩ ⟨b, ob, none⟩ then return Value.bool ((← choose (.extern "sameAddr.stringBytes" 2)) == 1)
      pure (Value.bool ((⟨a, oa, none⟩ : Addr).block == (⟨b, ob, none⟩ : Addr).block && (⟨a, oa, none⟩ : Addr).off < (⟨b, ob, none⟩ : Addr).off + lb * size && (⟨b, ob, none⟩ : Addr).off < (⟨a, oa, none⟩ : Addr).off + la * size))) w = _
  simp [run_underlying Tryz.underlying22, sizeOf, typeInfo, hi, h1, hne, fa, fb, mayBeOne, stringish, noView, va, vb, sa, sb]
end Go.Proofs.YtkceipkgebgigaaGreat
end
