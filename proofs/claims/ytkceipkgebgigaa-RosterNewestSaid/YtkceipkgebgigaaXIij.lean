/- End, Alive, Left, Over, cmp, bit, bytes, Good of the reference. Conditions: targets of at most 100,000 bytes. Good of the reference; instances in raw cells, field by field. Conditions: targets of at most 100,000 bytes. A reader whose bytes lie below a bound; Take of it. Conditions: at most 900,000 bytes. Contract of next of package contact. Conditions: at most 900,000 bytes. Contract of next of package contact. Conditions: at most 900,000 bytes. -/
import Derived.Test.YtkceipkgebgigaaXIif
import Derived.Test.YtkceipkgebgigaaXJLci
import Derived.Test.YtkceipkgebgigaaXERefb
import Derived.Test.YtkceipkgebgigaaXJPWords
import Derived.Test.YtkceipkgebgigaaXEOcta
import Derived.Test.YtkceipkgebgigaaXKAPKept
section
namespace Go.Proofs.Ytkceipkgebgigaa
open Go.Shelf Go.RowKit Go.Lib Go.Great
set_option maxRecDepth 100000
set_option maxHeartbeats 1000000
theorem rend_any (i : Ins) (w : World) : Calls Try.prog 17 #[.agg (encI i).toArray] w fun e w' => e = .returned (.int .u64 (endI i : Int)) ∧ w' = w.alloc (.cells (encI i).toArray 28) := by
  have HF := fldB (heap_alloc_new w (.cells (encI i).toArray 28))
  have c1 := HF.born
  have c2 := HF.life
  have h1 := i.hb
  have h2 := i.hl
  have h3 : (i.life : Int) % 18446744073709551616 = i.life := by omega
  have h4 : ((18446744073709551615 : Int) - (i.life : Int)) % 18446744073709551616 = 18446744073709551615 - i.life := by omega
  have HE : Hid (endI i = if 18446744073709551615 < i.born + i.life then 18446744073709551615 else i.born + i.life) := Lib.hid rfl
  generalize (encI i).toArray = X at *
  generalize endI i = E at *
  generalize i.born = b at *
  generalize i.life = l at *
  clear HF
  by_cases h : 18446744073709551615 < b + l
  · have hE : E = 18446744073709551615 := by rw [HE.out, if_pos h]
    have h5 : (18446744073709551615 : Int) - (l : Int) < (b : Int) := by omega
    subst hE
    clear HE
    go_enter Try.func17, Try.ntmps17
    go_wp2
    go_ret
    exact ⟨rfl, rfl⟩
  · have hE : E = b + l := by rw [HE.out, if_neg h]
    have h5 : ¬ (18446744073709551615 : Int) - (l : Int) < (b : Int) := by omega
    have h6 : ((b : Int) + (l : Int)) % 18446744073709551616 = b + l := by omega
    subst hE
    clear HE
    go_enter Try.func17, Try.ntmps17
    go_wp2
    go_ret
    exact ⟨by simp, rfl⟩
theorem rover_any (i : Ins) (n : Nat) (w : World) : Calls Try.prog 23 #[.agg (encI i).toArray, .int .u64 (n : Int)] w fun e w' => e = .returned (.bool (overI i n)) ∧ Below w.heap.size w w' := by
  have hb : Below w.heap.size w (w.alloc (.cells (encI i).toArray 28)) := (Below.refl _ w).alloc (Nat.le_refl _) _
  have HF := fldB (heap_alloc_new w (.cells (encI i).toArray 28))
  have HK := Lib.hid HF.all
  have HC := Lib.hid (rend_any i)
  have HE : Hid (((endI i : Nat) : Int) ≤ (n : Int) ↔ overI i n = true) := Lib.hid (by unfold overI; rw [decide_eq_true_eq]; omega)
  have HB := Lib.hid (fun W (h : W = (w.alloc (.cells (encI i).toArray 28)).alloc (.cells (encI i).toArray 28)) => show Below w.heap.size w W by rw [h]; exact hb.alloc hb.size _)
  generalize (encI i).toArray = X at *
  generalize endI i = E at *
  generalize overI i n = k at *
  clear hb HF
  go_enter Try.func23, Try.ntmps23
  go_wp2_with (first
    | ((with_reducible refine wpList_loadV (op := ⟨some 6, _, _, _, _, _⟩) rfl 28 (.tmp 2) rfl _ ?_ _ HK.out ?_); rfl)
    | (go_at_call 17; (with_reducible refine (HC.out _).mono ?_); rintro e w1 ⟨rfl, hw1⟩))
  go_ret
  refine ⟨?_, HB.out _ rfl⟩
  have := HE.out
  cases k
  · simp only [Bool.false_eq_true, iff_false] at this
    simp
    omega
  · simp only [iff_true] at this
    simp
    omega
theorem ralive_any (i : Ins) (n : Nat) (w : World) : Calls Try.prog 19 #[.agg (encI i).toArray, .int .u64 (n : Int)] w fun e w' => e = .returned (.bool (aliveI i n)) ∧ Below w.heap.size w w' := by
  have hb : Below w.heap.size w (w.alloc (.cells (encI i).toArray 28)) := (Below.refl _ w).alloc (Nat.le_refl _) _
  have HF := fldB (heap_alloc_new w (.cells (encI i).toArray 28))
  have HK := Lib.hid HF.all
  have c1 := HF.born
  have HC := Lib.hid (rend_any i)
  have HE : Hid (aliveI i n = (decide (i.born ≤ n) && !decide (endI i ≤ n))) := Lib.hid rfl
  have HB := Lib.hid hb
  have HB2 : Hid (Below w.heap.size w ((w.alloc (.cells (encI i).toArray 28)).alloc (.cells (encI i).toArray 28))) := Lib.hid (hb.alloc hb.size _)
  generalize (encI i).toArray = X at *
  generalize endI i = E at *
  generalize aliveI i n = r at *
  generalize i.born = b at *
  clear hb HF
  by_cases h : b ≤ n
  · have hr : r = !decide (E ≤ n) := by rw [HE.out, decide_eq_true (show b ≤ n by omega), Bool.true_and]
    have h' : (b : Int) ≤ (n : Int) := by omega
    have HR := Lib.hid hr
    clear HE hr
    go_enter Try.func19, Try.ntmps19
    go_wp2_with (first
      | ((with_reducible refine wpList_loadG (o := ⟨some 11, _, _, _, _, _⟩) rfl 28 (.tmp 2) rfl _ ?_ _ HK.out ?_); rfl)
      | (go_at_call 17; (with_reducible refine (HC.out _).mono ?_); rintro e w1 ⟨rfl, rfl⟩))
    go_ret
    refine ⟨?_, HB2.out⟩
    rw [HR.out]
    by_cases h2 : E ≤ n <;> simp [h2] <;> omega
  · have hr : r = false := by rw [HE.out, decide_eq_false (show ¬ b ≤ n by omega), Bool.false_and]
    have h' : ¬ (b : Int) ≤ (n : Int) := by omega
    subst hr
    clear HE
    go_enter Try.func19, Try.ntmps19
    go_wp2
    go_ret
    exact ⟨rfl, HB.out⟩
theorem rleft_anyI (i : Ins) (n : Nat) (hn : n < 18446744073709551616) (w : World) : Calls Try.prog 21 #[.agg (encI i).toArray, .int .u64 (n : Int)] w fun e w' => e = .returned (.int .u32 (leftI i n : Int)) ∧ Below w.heap.size w w' := by
  have hb : Below w.heap.size w (w.alloc (.cells (encI i).toArray 28)) := (Below.refl _ w).alloc (Nat.le_refl _) _
  have HK : Hid (∀ W, Below (w.heap.size + 1) (w.alloc (.cells (encI i).toArray 28)) W → (loadVar 28 ⟨w.heap.size, 0, none⟩).run Try.prog W = .ok (.agg (encI i).toArray) W) :=
    Lib.hid (fun W hW => (fld_below (heap_alloc_new w (.cells (encI i).toArray 28)) hW (by omega)).all)
  have HC : Hid (∀ W, Calls Try.prog 19 #[.agg (encI i).toArray, .int .u64 (n : Int)] W fun e w' => e = .returned (.bool (aliveI i n)) ∧ Below W.heap.size W w') := Lib.hid (ralive_any i n)
  have HD := Lib.hid (rend_any i)
  have HB := Lib.hid hb
  have HR : Hid (leftI i n = if aliveI i n = true then endI i - n else 0) := Lib.hid rfl
  have HL : Hid (leftI i n ≤ i.life) := Lib.hid (leftI_le i n)
  have hl := i.hl
  have HA : Hid (aliveI i n = true → n ≤ endI i) := Lib.hid (fun h => by
    unfold aliveI overI at h
    simp only [Bool.and_eq_true, decide_eq_true_eq, Bool.not_eq_true', decide_eq_false_iff_not] at h
    omega)
  have hE := endI_lt i
  generalize (encI i).toArray = X at *
  generalize endI i = E at *
  generalize leftI i n = r at *
  generalize aliveI i n = a at *
  generalize i.life = l at *
  clear hb
  cases a
  · have hr : r = 0 := by rw [HR.out]; rfl
    subst hr
    clear HR HL HA
    go_enter Try.func21, Try.ntmps21
    go_wp2_with (first
      | ((with_reducible refine wpList_loadV (op := ⟨some 5, _, _, _, _, _⟩) rfl 28 (.tmp 2) rfl _ ?_ _ (HK.out _ (Below.refl _ _)) ?_); rfl)
      | (go_at_call 19; (with_reducible refine (HC.out _).mono ?_); rintro e w1 ⟨rfl, hb1⟩))
    go_ret
    exact ⟨rfl, HB.out.trans (hb1.mono HB.out.size)⟩
  · have hr : r = E - n := by rw [HR.out]; rfl
    have h1 : IntKind.u64.wrap ((E : Int) - (n : Int)) = (r : Int) := by have := HA.out rfl; rw [IntKind.wrap]; simp [IntKind.signed, IntKind.bits]; omega
    have h2 : (r : Int) % 4294967296 = r := by have := HL.out; omega
    clear HR HL HA hr
    go_enter Try.func21, Try.ntmps21
    go_wp2_with (first
      | ((with_reducible refine wpList_loadV (op := ⟨some 5, _, _, _, _, _⟩) rfl 28 (.tmp 2) rfl _ ?_ _ (HK.out _ (Below.refl _ _)) ?_); rfl)
      | ((with_reducible refine wpList_loadV (op := ⟨some 9, _, _, _, _, _⟩) rfl 28 (.tmp 2) rfl _ ?_ _ (HK.out _ (by simpa using hb1)) ?_); rfl)
      | (go_at_call 19; (with_reducible refine (HC.out _).mono ?_); rintro e w1 ⟨rfl, hb1⟩)
      | (go_at_call 17; (with_reducible refine (HD.out _).mono ?_); rintro e w2 ⟨rfl, hw2⟩))
    go_ret
    have hb2 := HB.out.trans (hb1.mono HB.out.size)
    refine ⟨by simp [h1, h2], ?_⟩
    exact hb2.alloc hb2.size _
theorem rcmp64 (a b : Nat) (w : World) : Calls Try.prog 63 #[.int .u64 (a : Int), .int .u64 (b : Int)] w fun e w' => e = .returned (.int .i64 (cmpN a b)) ∧ w' = w := by
  by_cases h1 : a < b
  · have h : (a : Int) < (b : Int) := by omega
    rw [show cmpN a b = -1 by unfold cmpN; rw [if_pos h1]]
    go_enter Try.func63, Try.ntmps63
    go_wp2
    go_ret
    exact ⟨rfl, rfl⟩
  · have h : ¬ (a : Int) < (b : Int) := by omega
    by_cases h2 : b < a
    · have h3 : (b : Int) < (a : Int) := by omega
      rw [show cmpN a b = 1 by unfold cmpN; rw [if_neg h1, if_pos h2]]
      go_enter Try.func63, Try.ntmps63
      go_wp2
      go_ret
      exact ⟨rfl, rfl⟩
    · have h3 : ¬ (b : Int) < (a : Int) := by omega
      rw [show cmpN a b = 0 by unfold cmpN; rw [if_neg h1, if_neg h2]]
      go_enter Try.func63, Try.ntmps63
      go_wp2
      go_ret
      exact ⟨rfl, rfl⟩
theorem bit_any (b : Bool) (w : World) : Calls Try.prog 64 #[.bool b] w fun e w' => e = .returned (.int .u64 (flagN b : Int)) ∧ w' = w := by
  cases b
  · go_enter Try.func64, Try.ntmps64
    go_wp2
    go_ret
    exact ⟨rfl, rfl⟩
  · go_enter Try.func64, Try.ntmps64
    go_wp2
    go_ret
    exact ⟨rfl, rfl⟩
end Go.Proofs.Ytkceipkgebgigaa
end
section
namespace Go.Proofs.Ytkceipkgebgigaa
open Go.Shelf Go.RowKit Go.Lib Go.Great
set_option maxRecDepth 100000
set_option maxHeartbeats 1000000
theorem eq_bare (i : Ins) (h : i.gone = true) : eqI i (bareI i) = (decide (i.pri = 0) && (decide (i.wei = 0) && (decide (i.port = 0) && decide (i.tgt = [])))) := by
  rw [Bool.eq_iff_iff, eqI_iff]
  simp only [Bool.and_eq_true, decide_eq_true_eq]
  constructor
  · intro e
    have a := congrArg Ins.pri e
    have b := congrArg Ins.wei e
    have c := congrArg Ins.port e
    have d := congrArg Ins.tgt e
    exact ⟨a, b, c, d⟩
  · rintro ⟨a, b, c, d⟩
    exact Ins.same rfl rfl rfl rfl h a b c d
theorem bstr_nil : bstr [] = ⟨#[]⟩ := rfl
theorem rgoodI_any (i : Ins) (hi : i.tgt.length ≤ 100000) (w : World) : Calls Try.prog 15 #[.agg (encI i).toArray] w fun e w' => e = .returned (.bool (goodI i)) ∧ Below w.heap.size w w' := by
  have hb : Below w.heap.size w (w.alloc (.cells (encI i).toArray 28)) := (Below.refl _ w).alloc (Nat.le_refl _) _
  have hn := heap_alloc_new w (.cells (encI i).toArray 28)
  have HF := fldB hn
  have c1 := HF.life
  have c2 := HF.gone
  have c3 := HF.port
  have c4 := HF.tgt
  have c5 := HF.pri
  have c6 := HF.wei
  have HG : Hid (goodI i = (decide (1 ≤ i.life ∧ i.life ≤ 2147483647) && (if i.gone then eqI i (bareI i) else decide (i.port ≠ 0) && tgtL i.tgt))) := Lib.hid rfl
  have HEB := Lib.hid (eq_bare i)
  have HB := Lib.hid hb
  have hl := i.hl
  have HGo : Hid (∀ n : Kept (w.heap.size + 1) (w.alloc (.cells (encI i).toArray 28)), Calls Try.prog 54 #[.string (bstr i.tgt)] n.val fun e w' => e = .returned (.bool (goodL i.tgt)) ∧ ∃ m : Kept (w.heap.size + 1) (w.alloc (.cells (encI i).toArray 28)), w' = m.val) :=
    Lib.hid (fun n => kept_of (by simp) (rgood_any i.tgt hi) n)
  have HFo : Hid (∀ n : Kept (w.heap.size + 1) (w.alloc (.cells (encI i).toArray 28)), Calls Try.prog 55 #[.string (bstr i.tgt)] n.val fun e w' => e = .returned (.string (bstr (foldL i.tgt))) ∧ ∃ m : Kept (w.heap.size + 1) (w.alloc (.cells (encI i).toArray 28)), w' = m.val) :=
    Lib.hid (fun n => kept_of (by simp) (rfold_any i.tgt hi) n)
  have HTG : Hid (tgtL i.tgt = (goodL i.tgt && (foldL i.tgt == i.tgt))) := Lib.hid rfl
  have HS : Hid ((((bstr (foldL i.tgt)).toList) == ((bstr i.tgt).toList)) = (foldL i.tgt == i.tgt)) := Lib.hid (by rw [bstr_list, bstr_list])
  have HNL : Hid ((((bstr i.tgt).toList) == ((⟨#[]⟩ : ByteArray).toList)) = decide (i.tgt = [])) := Lib.hid (by
    rw [bstr_list, ← bstr_nil, bstr_list, Bool.eq_iff_iff]
    simp)
  have HNE : Hid ((bstr i.tgt).toList.isEmpty = decide (i.tgt = [])) := Lib.hid (by rw [bstr_list]; cases i.tgt <;> simp)
  have HQ : Hid (∀ n : Kept (w.heap.size + 1) (w.alloc (.cells (encI i).toArray 28)), n.val.cell? ⟨w.heap.size, 26, none⟩ = some (.int .u16 (i.port : Int)) ∧ n.val.cell? ⟨w.heap.size, 27, none⟩ = some (.string (bstr i.tgt))) :=
    Lib.hid (fun n => ⟨(fld_below hn n.property (by omega)).port, (fld_below hn n.property (by omega)).tgt⟩)
  generalize goodI i = r at *
  generalize eqI i (bareI i) = eqb at *
  generalize tgtL i.tgt = tg at *
  generalize hX : (encI i).toArray = X at *
  clear hX
  generalize bstr (foldL i.tgt) = F at *
  generalize bstr i.tgt = S at *
  generalize (foldL i.tgt == i.tgt) = fe at *
  generalize goodL i.tgt = gl at *
  generalize i.tgt = tl at *
  generalize i.life = l at *
  generalize i.gone = gn at *
  generalize i.port = p at *
  generalize i.pri = pr at *
  generalize i.wei = we at *
  clear HF hb hn hi
  by_cases h0 : l = 0
  · have hr : r = false := by rw [HG.out, decide_eq_false (by omega), Bool.false_and]
    have q0 : (l : Int) < 1 := by omega
    subst hr
    clear HG HEB HGo HFo HTG HS HNL HNE HQ
    go_enter Try.func15, Try.ntmps15
    go_wp2
    go_ret
    exact ⟨rfl, HB.out⟩
  have q0' : ¬ (l : Int) < 1 := by omega
  by_cases h1 : 2147483647 < l
  · have hr : r = false := by rw [HG.out, decide_eq_false (by omega), Bool.false_and]
    have q1 : (2147483647 : Int) < (l : Int) := by omega
    subst hr
    clear HG HEB HGo HFo HTG HS HNL HNE HQ
    go_enter Try.func15, Try.ntmps15
    go_wp2
    go_ret
    exact ⟨rfl, HB.out⟩
  have q1 : ¬ (2147483647 : Int) < (l : Int) := by omega
  rw [decide_eq_true (show 1 ≤ l ∧ l ≤ 2147483647 by omega), Bool.true_and] at HG
  cases gn
  · by_cases hp : p = 0
    · have hr : r = false := by rw [HG.out]; simp [hp]
      have q2 : ((p : Int) == 0) = true := by rw [beq_iff_eq]; omega
      have HQ1 := Lib.hid (fun n => (HQ.out n).1)
      subst hr hp
      clear HG HEB HGo HFo HTG HS HNL HNE HQ
      go_enter Try.func15, Try.ntmps15
      go_upto_region 5 with fail
      refine wp_region_kept (w.heap.size + 1) (w.alloc (.cells X 28)) (Below.refl _ _) (by kernel_rfl) (by kernel_rfl) ?_
      have hq1 := HQ1.out
      repeat go_big_quiet_step (fail)
      refine wpQuiet_nil ?_
      rintro wk ⟨⟨_, hwk⟩, rfl⟩
      go_wp2
      go_ret
      exact ⟨rfl, HB.out.trans (hwk.mono (by simp))⟩
    · have q2 : ((p : Int) == 0) = false := by rw [beq_eq_false_iff_ne]; omega
      have q3 : ((p : Int) != 0) = true := by simp [bne, q2]
      have q2' : ¬ (p : Int) = 0 := by omega
      have hr : r = (gl && fe) := by rw [HG.out, ← HTG.out]; simp [hp]
      have hq := HQ.out
      clear HG HEB HTG HNL HNE HQ
      cases gl
      · have hr' : r = false := by rw [hr]; rfl
        subst hr'
        clear hr HS HFo
        go_enter Try.func15, Try.ntmps15
        go_upto_region 5 with fail
        refine wp_region_kept (w.heap.size + 1) (w.alloc (.cells X 28)) (Below.refl _ _) (by kernel_rfl) (by kernel_rfl) ?_
        repeat go_big_quiet_step (first | (go_at_call 54; with_reducible exact HGo.out _))
        refine wpQuiet_nil ?_
        rintro wk ⟨⟨_, hwk⟩, rfl⟩
        go_wp2
        go_ret
        exact ⟨rfl, HB.out.trans (hwk.mono (by simp))⟩
      · have hr' : r = fe := by rw [hr]; rfl
        have hs := HS.out
        subst hr'
        clear hr HS
        go_enter Try.func15, Try.ntmps15
        go_upto_region 5 with fail
        refine wp_region_kept (w.heap.size + 1) (w.alloc (.cells X 28)) (Below.refl _ _) (by kernel_rfl) (by kernel_rfl) ?_
        repeat go_big_quiet_step (first | (go_at_call 54; with_reducible exact HGo.out _) | (go_at_call 55; with_reducible exact HFo.out _))
        refine wpQuiet_nil ?_
        rintro wk ⟨⟨_, hwk⟩, rfl⟩
        go_wp2
        go_ret
        exact ⟨by simp [hs], HB.out.trans (hwk.mono (by simp))⟩
  · have hr : r = (decide (pr = 0) && (decide (we = 0) && (decide (p = 0) && decide (tl = [])))) := by rw [HG.out, ← HEB.out rfl]; rfl
    have hnl := HNL.out
    have hne := HNE.out
    clear HG HEB HGo HFo HTG HS HNL HNE HQ
    generalize decide (tl = []) = tn at *
    have HR := Lib.hid hr
    clear hr
    go_enter Try.func15, Try.ntmps15
    by_cases a1 : pr = 0
    · have b1 : ((pr : Int) == 0) = true := by rw [beq_iff_eq]; omega
      by_cases a2 : we = 0
      · have b2 : ((we : Int) == 0) = true := by rw [beq_iff_eq]; omega
        by_cases a3 : p = 0
        · have b3 : ((p : Int) == 0) = true := by rw [beq_iff_eq]; omega
          go_wp2
          go_ret
          exact ⟨by rw [HR.out]; simp [a1, a2, a3, hne], HB.out⟩
        · have b3 : ((p : Int) == 0) = false := by rw [beq_eq_false_iff_ne]; omega
          go_wp2
          go_ret
          exact ⟨by rw [HR.out]; simp [a1, a2, a3], HB.out⟩
      · have b2 : ((we : Int) == 0) = false := by rw [beq_eq_false_iff_ne]; omega
        go_wp2
        go_ret
        exact ⟨by rw [HR.out]; simp [a1, a2], HB.out⟩
    · have b1 : ((pr : Int) == 0) = false := by rw [beq_eq_false_iff_ne]; omega
      go_wp2
      go_ret
      exact ⟨by rw [HR.out]; simp [a1], HB.out⟩
end Go.Proofs.Ytkceipkgebgigaa
end
section
namespace Go.Proofs.Ytkceipkgebgigaa
open Go.Shelf Go.RowKit Go.Lib Go.Sort Go.Great
set_option maxRecDepth 100000
set_option maxHeartbeats 1000000
/-- A reader whose bytes lie in a block below B. -/
def RdrB (w : World) (g : Nat) (s : St) (B : Nat) : Prop :=
  ∃ A c, w.heap[g]? = some (.cells #[.slice A s.ys.length c, .bool true, .bool s.bad] 87 (0, 0)) ∧ BAt w B A s.ys ∧ s.ys.length ≤ c ∧ (s.bad = true → s.ys = []) ∧ s.ys.length ≤ 900000 ∧ B ≤ w.heap.size
section
variable {w w' : World} {g B : Nat} {s : St}
theorem RdrB.rs (h : RdrB w g s B) : RdrS w g s := by
  obtain ⟨A, c, hh, hx, hc, hb, hl, hB⟩ := h
  exact ⟨⟨A, c, hh, hx.more hB, hc⟩, hb, hl⟩
theorem RdrS.rb (h : RdrS w g s) : RdrB w g s w.heap.size := by
  obtain ⟨⟨A, c, hh, hx, hc⟩, hb, hl⟩ := h
  exact ⟨A, c, hh, hx, hc, hb, hl, Nat.le_refl _⟩
/-- The reader's block and all below B stay. -/
theorem RdrB.keep (h : RdrB w g s B) (hg : w'.heap[g]? = w.heap[g]?) (hs : w.heap.size ≤ w'.heap.size) (hk : ∀ i, i < B → i ≠ g → w'.heap[i]? = w.heap[i]?) : RdrB w' g s B := by
  obtain ⟨A, c, hh, hx, hc, hb, hl, hB⟩ := h
  refine ⟨A, c, hg.trans hh, ?_, hc, hb, hl, by omega⟩
  rcases hx with hx | ⟨g', off, rfl, hlt, hcell⟩
  · exact .inl hx
  · refine .inr ⟨g', off, rfl, hlt, fun j hj => ?_⟩
    rw [← hcell j hj]
    have : w'.heap[g']? = w.heap[g']? := by
      by_cases e : g' = g
      · rw [e]; exact hg
      · exact hk g' hlt e
    simp only [World.cell?, this]
theorem RdrB.lt (h : RdrB w g s B) : g < w.heap.size := h.rs.lt
theorem RdrB.below (h : RdrB w g s B) (hb : Below w.heap.size w w') : RdrB w' g s B := by
  obtain ⟨A, c, _, _, _, _, _, hB⟩ := id h
  exact h.keep (hb.block g h.lt) hb.size (fun i hi _ => hb.block i (by omega))
def TakePB (w : World) (g : Nat) (s : St) (n : Int) (B : Nat) (e : Ending) (w' : World) : Prop :=
  ∃ v, e = .returned v ∧ w'.ownsRow w.heap.size 5 1 v (takeV s n).length (bcells (takeV s n)) ∧ RdrB w' g (takeS s n) B ∧ w.grownBy w' (some g)
theorem take_anyB (h : RdrB w g s B) (n : Int) (hw : n ≤ 9223372036854775807) : Calls Try.prog 96 #[.pointer (some ⟨g, 0, none⟩), .int .i64 n] w (TakePB w g s n B) := by
  have hS := h.rs
  have HB := Lib.hid (bad_any hS)
  obtain ⟨A, c, hh, hxB, hc, hbd, hlen, hBw⟩ := id h
  have hx := hxB.more hBw
  have c0 := cell_of_row w g 0 _ 87 (0, 0) hh
  simp at c0
  have hf := fun i => frozen_of_row w g i _ 87 hh
  by_cases hb : s.bad = true
  · have hno : ¬ takeOk s n := fun hk => hb.symm.trans hk.1 |> fun h => by cases h
    have R : TakePB w g s n B (.returned (.slice none 0 0)) w := by
      refine ⟨_, rfl, by simp only [takeV, if_neg hno]; exact World.ownsRow_nil _ _ _ _, ?_, World.grownBy.refl w _⟩
      simp only [takeS, if_neg hno]
      have e : s = ⟨[], true⟩ := by cases s; simp only [St.mk.injEq] at *; exact ⟨hbd hb, hb⟩
      rw [← e]
      exact h
    have HR := Lib.hid R
    rw [hb] at HB
    clear hh hx h R hb hno hxB hS hbd
    go_enter Try.func96, Try.ntmps96
    go_wp2_with (go_at_call 33; (with_reducible refine (HB.out).mono ?_); rintro e w1 ⟨rfl, rfl⟩)
    go_ret
    exact HR.out
  · have hb' : s.bad = false := by simpa using hb
    rw [hb'] at HB
    by_cases hk : 0 ≤ n ∧ n ≤ s.ys.length
    · obtain ⟨k, rfl⟩ : ∃ k : Nat, n = k := ⟨n.toNat, by omega⟩
      have hok : takeOk s (k : Int) := ⟨hb', hk⟩
      have HN := Lib.hid (cut_yes g c s.ys.length k A w c0 (hf 0) hlen hc (by omega))
      have hhd : BAt w w.heap.size (headA A c) (s.ys.take k) := hx.head hc
      have hx1 : BAt (w.setCell ⟨g, 0, none⟩ (.slice (cutA A c k) (s.ys.length - k) (c - k))) (w.setCell ⟨g, 0, none⟩ (.slice (cutA A c k) (s.ys.length - k) (c - k))).heap.size (headA A c) (s.ys.take k) := by
        have := hhd.set (j := 0) (.slice (cutA A c k) (s.ys.length - k) (c - k)) (hhd.ne hh (by simp) (by simp) (by simp))
        simpa [World.setCell] using this
      have HC := Lib.hid (clone_len (headA A c) k c (s.ys.take k) _ hx1 (by rw [List.length_take]; omega) (by rw [List.length_take]; omega))
      have R : ∀ e w', OwnB (w.setCell ⟨g, 0, none⟩ (.slice (cutA A c k) (s.ys.length - k) (c - k))) (s.ys.take k) e w' → TakePB w g s k B e w' := by
        rintro e w' ⟨v, he, ho, hbl⟩
        have e1 : (w.setCell ⟨g, 0, none⟩ (.slice (cutA A c k) (s.ys.length - k) (c - k))).heap.size = w.heap.size := by simp [World.setCell]
        refine ⟨v, he, ?_, ?_, grownBy_trans (grownBy_setCell (World.grownBy.refl w _) 0 _) (grownBy_of_below hbl (Nat.le_refl _) _)⟩
        · simp only [takeV, if_pos hok, Int.toNat_natCast]
          rw [e1] at ho
          exact ho
        · simp only [takeS, if_pos hok, Int.toNat_natCast]
          rw [hb'] at hh
          have h1 : RdrB (w.setCell ⟨g, 0, none⟩ (.slice (cutA A c k) (s.ys.length - k) (c - k))) g ⟨s.ys.drop k, false⟩ B := by
            refine ⟨cutA A c k, c - k, ?_, ?_, by simp only [List.length_drop]; omega, by simp, by simp only [List.length_drop]; omega, by rw [e1]; exact hBw⟩
            · have s0 := heap_setCell_same w g 0 _ 87 (.slice (cutA A c k) (s.ys.length - k) (c - k)) hh
              simp only [List.length_drop]
              simpa using s0
            · have hx' : BAt w B (cutA A c k) (s.ys.drop k) := hxB.cut (by omega) hc
              have := hx'.set (j := 0) (.slice (cutA A c k) (s.ys.length - k) (c - k)) (hx'.ne hh (by simp) (by simp) (by simp))
              simpa [World.setCell] using this
          exact h1.below hbl
      have HR := Lib.hid R
      clear hh hx h R hb hb' hok hhd hx1 hxB hS hbd
      go_enter Try.func96, Try.ntmps96
      go_wp2_with (first
        | (go_at_call 33; (with_reducible refine (HB.out).mono ?_); rintro e w1 ⟨rfl, rfl⟩)
        | (go_at_call 112; (with_reducible refine (HN.out).mono ?_); rintro e w1 ⟨rfl, rfl⟩)
        | (go_at_call 66; (with_reducible refine (HC.out).mono ?_); rintro e w1 ⟨v1, rfl, ho1, hb1⟩))
      go_ret
      exact HR.out _ _ ⟨v1, rfl, ho1, hb1⟩
    · have hno : ¬ takeOk s n := fun h' => hk h'.2
      refine (take_any hS n hw).mono ?_
      rintro e w' ⟨v, rfl, ho, hr, hg⟩
      refine ⟨v, rfl, ho, ?_, hg⟩
      have hB2 : B ≤ w'.heap.size := Nat.le_trans hBw hg.size
      simp only [takeS, if_neg hno] at hr ⊢
      obtain ⟨⟨A', c', hh', _, hc'⟩, _, _⟩ := hr
      exact ⟨A', c', hh', .inl rfl, hc', fun _ => rfl, by simp, hB2⟩
end
end Go.Proofs.Ytkceipkgebgigaa
end
section
namespace Go.Proofs.Ytkceipkgebgigaa
open Go.Shelf Go.RowKit Go.Lib Go.Sort Go.Great
set_option maxRecDepth 100000
set_option maxHeartbeats 1000000
theorem getN_lt' (xs : List UInt8) (n : Nat) (h : xs.length ≤ n) : getN xs < 256 ^ n := by
  have h1 : getN xs < 256 ^ xs.length := getN_lt xs
  exact Nat.lt_of_lt_of_le h1 (Nat.pow_le_pow_right (by omega) h)
theorem takeV_len (s : St) (n : Nat) : (takeV s n).length = n ∨ takeV s n = [] := by
  unfold takeV
  split
  · rename_i h
    left
    have := h.2.2
    rw [List.length_take]
    simp only [Int.toNat_natCast]
    omega
  · exact .inr rfl
theorem heap_setCells_row (g : Nat) (t : TypeId) : ∀ (vs : List Value) (o : Nat) (cs : List Value) (w : World), w.heap[g]? = some (.cells cs.toArray t (0, 0)) → o + vs.length ≤ cs.length → (w.setCells g o vs).heap[g]? = some (.cells (cs.take o ++ vs ++ cs.drop (o + vs.length)).toArray t (0, 0)) := by
  intro vs
  induction vs with
  | nil => intro o cs w h _; simp [World.setCells, h]
  | cons v vs ih =>
    intro o cs w h hl
    rw [List.length_cons] at hl
    have h1 := heap_setCell_same w g o _ t v h
    rw [List.setIfInBounds_toArray] at h1
    rw [World.setCells, ih (o + 1) (cs.set o v) _ h1 (by rw [List.length_set]; omega)]
    have e : cs.set o v = (cs.take o ++ [v]) ++ cs.drop (o + 1) := by
      rw [List.set_eq_take_append_cons_drop, if_pos (by omega), List.append_assoc]
      rfl
    have hl1 : (cs.take o ++ [v]).length = o + 1 := by rw [List.length_append, List.length_take, List.length_singleton]; omega
    rw [e, List.take_append_of_le_length (by omega), List.take_of_length_le (by omega), List.drop_append, List.drop_of_length_le (by omega), List.nil_append, List.drop_drop, hl1, List.length_cons]
    rw [show o + 1 + (o + 1 + vs.length - (o + 1)) = o + (vs.length + 1) by omega, List.append_assoc (cs.take o) [v] vs]
    rfl
end Go.Proofs.Ytkceipkgebgigaa
end
section
namespace Go.Proofs.Ytkceipkgebgigaa
set_option maxRecDepth 100000
open Go.Shelf Go.RowKit Go.Lib Go.Sort Go.Great
set_option maxRecDepth 1000000
set_option maxHeartbeats 2000000
theorem grown_cells {g : Nat} {W : World} : ∀ (vs : List Value) (o : Nat) (W1 : World), W.grownBy W1 (some g) → W.grownBy (W1.setCells g o vs) (some g)
  | [], _, _, h => h
  | _ :: vs, o, W1, h => grown_cells vs (o + 1) _ (grownBy_setCell h o _)
theorem step_copy_row {P : Program} {ops : Array Oper} {o : Oper} {a : Act} {w : World} {K : Act → World → Prop} {Q : Exit → Act → World → Prop} {E : Prop} (hgd : o.guard = none) (dd : Nat) (hdd : o.dst = some dd) (d s : Operand) (dT sT : TypeId)
    (ho : o.op = .call { callee := .builtin .copy, args := #[d, s], argTypes := #[dT, sT] }) (elem : TypeId) (hu : P.underlying dT = some (.slice elem)) (hsz : (P.info? elem).map (·.size) = some 1)
    (dp sp : Option Addr) (dLen dCap sLen sCap : Nat) (hd : a.eval d = .slice dp dLen dCap) (hs : a.eval s = .slice sp sLen sCap)
    (g off : Nat) (cur : List Value) (t : TypeId) (hg : w.heap[g]? = some (.cells cur.toArray t (0, 0))) (cs : List Value) (hn : cs.length = Nat.min sLen dLen)
    (hpos : 0 < cs.length → dp = some ⟨g, off, none⟩ ∧ ∃ ad, sp = some ad ∧ ∀ j v, cs[j]? = some v → w.cell? (ad.add j) = some v)
    (hfit : off + cs.length ≤ cur.length) (h1 : ∀ v ∈ cs, v.oneCell' = true)
    (h : ∀ w', w'.heap[g]? = some (.cells (splice cur off cs).toArray t (0, 0)) → w.grownBy w' (some g) → K (a.put (some dd) (goInt cs.length)) w') :
    if Region.wanted o (yielded ops a.tmps) = true then Oper.wp P o a w K Q else E := by
  have hw : Region.wanted o (yielded ops a.tmps) = true := by simp [Region.wanted, hgd]
  rw [if_pos hw]
  rw [← hdd] at h
  by_cases h0 : cs.length = 0
  · obtain rfl : cs = [] := List.eq_nil_of_length_eq_zero h0
    have hrun := run_copy_none (P := P) w dT sT o.type elem dp sp dLen dCap sLen sCap hu hsz (by simpa using hn.symm)
    unfold Oper.wp
    simp [execOp, ho, resolve, invoke, builtin, hd, hs, hrun, Result.andThen]
    exact h w (by simpa [splice] using hg) (World.grownBy.refl w _)
  · obtain ⟨rfl, ad, rfl, hsrc⟩ := hpos (by omega)
    have hrun := run_copy_row (P := P) w dT sT o.type elem g off dLen dCap ad sLen sCap cur.toArray t cs hu hsz hg hn hsrc (by simpa using hfit) h1
    unfold Oper.wp
    simp [execOp, ho, resolve, invoke, builtin, hd, hs, hrun, Result.andThen]
    exact h _ (by simpa [splice] using setRow_heap w g _ _ t _ hg) ⟨rfl, rfl, rfl, by simp, fun k _ hk => setRow_other w g k _ (fun e => hk (by simp [e]))⟩
section
variable {w W W' : World} {g B r q : Nat} {s s' : St} {cq cq' : List Value}
end
end Go.Proofs.Ytkceipkgebgigaa
end
