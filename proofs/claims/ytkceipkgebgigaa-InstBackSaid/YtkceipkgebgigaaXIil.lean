/- Good of the reference; instances in raw cells, field by field. Conditions: targets of at most 100,000 bytes. -/
import Derived.Test.YtkceipkgebgigaaXIij
namespace Go.Proofs.Ytkceipkgebgigaa
open Go.Shelf Go.RowKit Go.Lib Go.Great
set_option maxRecDepth 100000
set_option maxHeartbeats 1000000
theorem eq_bare (i : Ins) (h : i.gone = true) : eqI i (bareI i) = (decide (i.pri = 0) && (decide (i.wei = 0) && (decide (i.port = 0) && decide (i.tgt = [])))) := by
  rw [Bool.eq_iff_iff, eqI_iff]
  simp only [Bool.and_eq_true, decide_eq_true_eq]
  constructor
  · intro e
    have a := congrArg Ins.pri e
    have b := congrArg Ins.wei e
    have c := congrArg Ins.port e
    have d := congrArg Ins.tgt e
    exact ⟨a, b, c, d⟩
  · rintro ⟨a, b, c, d⟩
    exact Ins.same rfl rfl rfl rfl h a b c d
theorem bstr_nil : bstr [] = ⟨#[]⟩ := rfl
theorem rgoodI_any (i : Ins) (hi : i.tgt.length ≤ 100000) (w : World) : Calls Try.prog 15 #[.agg (encI i).toArray] w fun e w' => e = .returned (.bool (goodI i)) ∧ Below w.heap.size w w' := by
  have hb : Below w.heap.size w (w.alloc (.cells (encI i).toArray 28)) := (Below.refl _ w).alloc (Nat.le_refl _) _
  have hn := heap_alloc_new w (.cells (encI i).toArray 28)
  have HF := fldB hn
  have c1 := HF.life
  have c2 := HF.gone
  have c3 := HF.port
  have c4 := HF.tgt
  have c5 := HF.pri
  have c6 := HF.wei
  have HG : Hid (goodI i = (decide (1 ≤ i.life ∧ i.life ≤ 2147483647) && (if i.gone then eqI i (bareI i) else decide (i.port ≠ 0) && tgtL i.tgt))) := Lib.hid rfl
  have HEB := Lib.hid (eq_bare i)
  have HB := Lib.hid hb
  have hl := i.hl
  have HGo : Hid (∀ n : Kept (w.heap.size + 1) (w.alloc (.cells (encI i).toArray 28)), Calls Try.prog 54 #[.string (bstr i.tgt)] n.val fun e w' => e = .returned (.bool (goodL i.tgt)) ∧ ∃ m : Kept (w.heap.size + 1) (w.alloc (.cells (encI i).toArray 28)), w' = m.val) :=
    Lib.hid (fun n => kept_of (by simp) (rgood_any i.tgt hi) n)
  have HFo : Hid (∀ n : Kept (w.heap.size + 1) (w.alloc (.cells (encI i).toArray 28)), Calls Try.prog 55 #[.string (bstr i.tgt)] n.val fun e w' => e = .returned (.string (bstr (foldL i.tgt))) ∧ ∃ m : Kept (w.heap.size + 1) (w.alloc (.cells (encI i).toArray 28)), w' = m.val) :=
    Lib.hid (fun n => kept_of (by simp) (rfold_any i.tgt hi) n)
  have HTG : Hid (tgtL i.tgt = (goodL i.tgt && (foldL i.tgt == i.tgt))) := Lib.hid rfl
  have HS : Hid ((((bstr (foldL i.tgt)).toList) == ((bstr i.tgt).toList)) = (foldL i.tgt == i.tgt)) := Lib.hid (by rw [bstr_list, bstr_list])
  have HNL : Hid ((((bstr i.tgt).toList) == ((⟨#[]⟩ : ByteArray).toList)) = decide (i.tgt = [])) := Lib.hid (by
    rw [bstr_list, ← bstr_nil, bstr_list, Bool.eq_iff_iff]
    simp)
  have HNE : Hid ((bstr i.tgt).toList.isEmpty = decide (i.tgt = [])) := Lib.hid (by rw [bstr_list]; cases i.tgt <;> simp)
  have HQ : Hid (∀ n : Kept (w.heap.size + 1) (w.alloc (.cells (encI i).toArray 28)), n.val.cell? ⟨w.heap.size, 26, none⟩ = some (.int .u16 (i.port : Int)) ∧ n.val.cell? ⟨w.heap.size, 27, none⟩ = some (.string (bstr i.tgt))) :=
    Lib.hid (fun n => ⟨(fld_below hn n.property (by omega)).port, (fld_below hn n.property (by omega)).tgt⟩)
  generalize goodI i = r at *
  generalize eqI i (bareI i) = eqb at *
  generalize tgtL i.tgt = tg at *
  generalize hX : (encI i).toArray = X at *
  clear hX
  generalize bstr (foldL i.tgt) = F at *
  generalize bstr i.tgt = S at *
  generalize (foldL i.tgt == i.tgt) = fe at *
  generalize goodL i.tgt = gl at *
  generalize i.tgt = tl at *
  generalize i.life = l at *
  generalize i.gone = gn at *
  generalize i.port = p at *
  generalize i.pri = pr at *
  generalize i.wei = we at *
  clear HF hb hn hi
  by_cases h0 : l = 0
  · have hr : r = false := by rw [HG.out, decide_eq_false (by omega), Bool.false_and]
    have q0 : (l : Int) < 1 := by omega
    subst hr
    clear HG HEB HGo HFo HTG HS HNL HNE HQ
    go_enter Try.func15, Try.ntmps15
    go_wp2
    go_ret
    exact ⟨rfl, HB.out⟩
  have q0' : ¬ (l : Int) < 1 := by omega
  by_cases h1 : 2147483647 < l
  · have hr : r = false := by rw [HG.out, decide_eq_false (by omega), Bool.false_and]
    have q1 : (2147483647 : Int) < (l : Int) := by omega
    subst hr
    clear HG HEB HGo HFo HTG HS HNL HNE HQ
    go_enter Try.func15, Try.ntmps15
    go_wp2
    go_ret
    exact ⟨rfl, HB.out⟩
  have q1 : ¬ (2147483647 : Int) < (l : Int) := by omega
  rw [decide_eq_true (show 1 ≤ l ∧ l ≤ 2147483647 by omega), Bool.true_and] at HG
  cases gn
  · by_cases hp : p = 0
    · have hr : r = false := by rw [HG.out]; simp [hp]
      have q2 : ((p : Int) == 0) = true := by rw [beq_iff_eq]; omega
      have HQ1 := Lib.hid (fun n => (HQ.out n).1)
      subst hr hp
      clear HG HEB HGo HFo HTG HS HNL HNE HQ
      go_enter Try.func15, Try.ntmps15
      go_upto_region 5 with fail
      refine wp_region_kept (w.heap.size + 1) (w.alloc (.cells X 28)) (Below.refl _ _) (by kernel_rfl) (by kernel_rfl) ?_
      have hq1 := HQ1.out
      repeat go_big_quiet_step (fail)
      refine wpQuiet_nil ?_
      rintro wk ⟨⟨_, hwk⟩, rfl⟩
      go_wp2
      go_ret
      exact ⟨rfl, HB.out.trans (hwk.mono (by simp))⟩
    · have q2 : ((p : Int) == 0) = false := by rw [beq_eq_false_iff_ne]; omega
      have q3 : ((p : Int) != 0) = true := by simp [bne, q2]
      have q2' : ¬ (p : Int) = 0 := by omega
      have hr : r = (gl && fe) := by rw [HG.out, ← HTG.out]; simp [hp]
      have hq := HQ.out
      clear HG HEB HTG HNL HNE HQ
      cases gl
      · have hr' : r = false := by rw [hr]; rfl
        subst hr'
        clear hr HS HFo
        go_enter Try.func15, Try.ntmps15
        go_upto_region 5 with fail
        refine wp_region_kept (w.heap.size + 1) (w.alloc (.cells X 28)) (Below.refl _ _) (by kernel_rfl) (by kernel_rfl) ?_
        repeat go_big_quiet_step (first | (go_at_call 54; with_reducible exact HGo.out _))
        refine wpQuiet_nil ?_
        rintro wk ⟨⟨_, hwk⟩, rfl⟩
        go_wp2
        go_ret
        exact ⟨rfl, HB.out.trans (hwk.mono (by simp))⟩
      · have hr' : r = fe := by rw [hr]; rfl
        have hs := HS.out
        subst hr'
        clear hr HS
        go_enter Try.func15, Try.ntmps15
        go_upto_region 5 with fail
        refine wp_region_kept (w.heap.size + 1) (w.alloc (.cells X 28)) (Below.refl _ _) (by kernel_rfl) (by kernel_rfl) ?_
        repeat go_big_quiet_step (first | (go_at_call 54; with_reducible exact HGo.out _) | (go_at_call 55; with_reducible exact HFo.out _))
        refine wpQuiet_nil ?_
        rintro wk ⟨⟨_, hwk⟩, rfl⟩
        go_wp2
        go_ret
        exact ⟨by simp [hs], HB.out.trans (hwk.mono (by simp))⟩
  · have hr : r = (decide (pr = 0) && (decide (we = 0) && (decide (p = 0) && decide (tl = [])))) := by rw [HG.out, ← HEB.out rfl]; rfl
    have hnl := HNL.out
    have hne := HNE.out
    clear HG HEB HGo HFo HTG HS HNL HNE HQ
    generalize decide (tl = []) = tn at *
    have HR := Lib.hid hr
    clear hr
    go_enter Try.func15, Try.ntmps15
    by_cases a1 : pr = 0
    · have b1 : ((pr : Int) == 0) = true := by rw [beq_iff_eq]; omega
      by_cases a2 : we = 0
      · have b2 : ((we : Int) == 0) = true := by rw [beq_iff_eq]; omega
        by_cases a3 : p = 0
        · have b3 : ((p : Int) == 0) = true := by rw [beq_iff_eq]; omega
          go_wp2
          go_ret
          exact ⟨by rw [HR.out]; simp [a1, a2, a3, hne], HB.out⟩
        · have b3 : ((p : Int) == 0) = false := by rw [beq_eq_false_iff_ne]; omega
          go_wp2
          go_ret
          exact ⟨by rw [HR.out]; simp [a1, a2, a3], HB.out⟩
      · have b2 : ((we : Int) == 0) = false := by rw [beq_eq_false_iff_ne]; omega
        go_wp2
        go_ret
        exact ⟨by rw [HR.out]; simp [a1, a2], HB.out⟩
    · have b1 : ((pr : Int) == 0) = false := by rw [beq_eq_false_iff_ne]; omega
      go_wp2
      go_ret
      exact ⟨by rw [HR.out]; simp [a1], HB.out⟩
end Go.Proofs.Ytkceipkgebgigaa
