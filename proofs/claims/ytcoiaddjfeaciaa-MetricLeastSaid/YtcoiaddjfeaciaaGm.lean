/- Contract of slices.Compact at ids. Conditions: fewer than 50000 ids, in a row of their own. Contract of Sort of package ident. Conditions: fewer than 1000 ids. Contract of Sort of package ident. Conditions: fewer than 1000 ids. -/
import Derived.Test.YtcoiaddjfeaciaaGl
import Derived.Lib.OwnBridge
import Derived.Lib.SliceRun
import Derived.Shelf.SlSortCmp.NoneTotal
section
namespace Go.Proofs.Ytcoiaddjfeaciaa
set_option maxRecDepth 100000
set_option maxHeartbeats 1000000
open Go.RowKit Go.Lib Go.Great

theorem range_append {w : World} {g o : Nat} {a b : List Value} (h1 : w.rangeAt g o a) (h2 : w.rangeAt g (o + a.length) b) : w.rangeAt g o (a ++ b) := fun j v hv => by
  by_cases hj : j < a.length
  · rw [List.getElem?_append_left hj] at hv
    exact h1 j v hv
  · rw [List.getElem?_append_right (by omega)] at hv
    have := h2 _ v hv
    rwa [show o + a.length + (j - a.length) = o + j by omega] at this
theorem range_sub {w : World} {g o : Nat} {a : List Value} (h : w.rangeAt g o a) (n m : Nat) (e : m = o + n) : w.rangeAt g m (a.drop n) := fun j v hv => by
  rw [List.getElem?_drop] at hv
  have := h _ v hv
  rwa [show m + j = o + (n + j) by omega]
theorem range_first {w : World} {g o : Nat} {a : List Value} (h : w.rangeAt g o a) (n : Nat) : w.rangeAt g o (a.take n) := fun j v hv => by
  rw [List.getElem?_take] at hv
  split at hv
  · exact h j v hv
  · cases hv
theorem kept_range26 {g off : Nat} {W : World} {x : IDv} (hg : g < W.heap.size) (h : W.rangeAt g off (encID x)) : ∀ n : Kept W.heap.size W, (loadVar 26 ⟨g, off, none⟩).run Try.prog n.val = .ok (.agg (encID x).toArray) n.val :=
  fun n => range_load26 (range_keep h (n.property.block g hg))
theorem there_keep {w w' : World} {g o n : Nat} (h : w.there g o n) (hb : w'.heap[g]? = w.heap[g]?) : w'.there g o n := fun j hj => by
  rw [World.cell?_of_block (w := w) (w' := w') (a := ⟨g, o + j, none⟩) hb, World.frozen?_of_block (w := w) (w' := w') (a := ⟨g, o + j, none⟩) hb]
  exact h j hj
theorem there_part {w : World} {g o n o' n' : Nat} (h : w.there g o n) (h1 : o ≤ o') (h2 : o' + n' ≤ o + n) : w.there g o' n' := fun j hj => by
  have := h (o' - o + j) (by omega)
  rwa [show o + (o' - o + j) = o' + j by omega] at this
theorem wp_clear_ids {w : World} {o : Oper} {a : Act} {K : Act → World → Prop} {Q : Exit → Act → World → Prop} (x : Operand) (ho : o.op = .call { callee := .builtin .clear, args := #[x], argTypes := #[62] })
    (b f n c : Nat) (hx : a.eval x = .slice (some ⟨b, f, none⟩) n c) (ht : w.there b f (n * 20))
    (h : ∀ vs : List Value, vs.length = n * 20 → K (a.put o.dst (.tuple #[])) (w.setCells b f vs)) : o.wp Try.prog a w K Q := by
  obtain ⟨vs, hl, hr⟩ := run_clear_ids w o.type b f n c ht
  unfold Oper.wp execOp
  simp only [ho, resolve, invoke, builtin, Sem.run_bind, Sem.run_pure, Result.andThen_ok, List.map_toArray, List.map_cons, List.map_nil, hx, hr]
  exact h vs hl
theorem wpList_clear_ids {w : World} {ops : Array Oper} {rest : List Oper} {o : Oper} {a : Act} {Q : Exit → Act → World → Prop} (hgd : o.guard = none) (x : Operand) (ho : o.op = .call { callee := .builtin .clear, args := #[x], argTypes := #[62] })
    (b f n c : Nat) (hx : a.eval x = .slice (some ⟨b, f, none⟩) n c) (ht : w.there b f (n * 20))
    (h : ∀ vs : List Value, vs.length = n * 20 → wpList Try.prog ops Q rest (a.put o.dst (.tuple #[])) (w.setCells b f vs)) : wpList Try.prog ops Q (o :: rest) a w :=
  wpList_plain hgd fun _ hK => wp_clear_ids x ho b f n c hx ht fun vs hv => hK _ _ (h vs hv)

def CoRel (w : World) (L : List IDv) (i : Value) (wr : World) : Prop :=
  ∃ q : Nat, q + 1 ≤ L.length ∧ i = .int .i64 ((q : Int) + 1) ∧ (∀ k, 0 < k → k < q + 1 → L[k]? ≠ L[k - 1]?) ∧ Below w.heap.size w wr
def CiRel (w : World) (B g k : Nat) (L : List IDv) (i3 i5 : Value) (wr : World) : Prop :=
  ∃ r kk : Nat, i5 = .int .i64 ((r : Int) + 1) ∧ k + r + 1 ≤ L.length ∧ kk = (dd L (k + r + 1)).length ∧ i3 = .int .i64 (kk : Int) ∧ kk ≤ k + r ∧ wr.rangeAt g 0 (flatI (dd L (k + r + 1))) ∧ wr.rangeAt g (kk * 20) (flatI (L.drop kk)) ∧
    wr.there g 0 (L.length * 20) ∧ w.heap.size ≤ wr.heap.size ∧ Below B w wr
theorem CiRel.at_ {wr : World} {g kk : Nat} {L : List IDv} (h : wr.rangeAt g (kk * 20) (flatI (L.drop kk))) {p : Nat} {x : IDv} (hp : kk ≤ p) (hx : L[p]? = some x) : wr.rangeAt g (p * 20) (encID x) := by
  have e : (L.drop kk)[p - kk]? = some x := by rw [List.getElem?_drop, show kk + (p - kk) = p by omega]; exact hx
  have := range_part h e
  rwa [show kk * 20 + (p - kk) * 20 = p * 20 by omega] at this

theorem compact_any (g cap B : Nat) (L : List IDv) (w : World) (hL : L.length ≤ 50000) (hcap : L.length ≤ cap) (hB : B ≤ g) (hg : g < w.heap.size) (hr : w.rangeAt g 0 (flatI L)) (ht : w.there g 0 (L.length * 20)) :
    Calls Try.prog 71 #[.slice (some ⟨g, 0, none⟩) L.length cap] w fun e w' => e = .returned (.slice (some ⟨g, 0, none⟩) (dd L L.length).length cap) ∧ w'.rangeAt g 0 (flatI (dd L L.length)) ∧ g < w'.heap.size ∧ Below B w w' := by
  obtain ⟨n, hn⟩ : ∃ n, n = L.length := ⟨_, rfl⟩
  rw [← hn] at hL hcap
  have HN := Lib.hid hn
  have HR := Lib.hid hr
  have HT := Lib.hid ht
  have HG : Hid (g < w.heap.size) := Lib.hid hg
  have HBB : Hid (B ≤ g) := Lib.hid hB
  suffices hs : Calls Try.prog 71 #[.slice (some ⟨g, 0, none⟩) n cap] w fun e w' => e = .returned (.slice (some ⟨g, 0, none⟩) (dd L n).length cap) ∧ w'.rangeAt g 0 (flatI (dd L n)) ∧ g < w'.heap.size ∧ Below B w w' by rw [hn] at hs; exact hs
  clear hn hr ht hg hB
  by_cases h2 : n < 2
  · have h2' : (n : Int) < 2 := by omega
    have hd : dd L n = L := by
      rw [dd_all L n (by rw [HN.out]; exact Nat.le_refl _) (fun k h1 h3 => by omega), HN.out, List.take_length]
    have HD := Lib.hid hd
    clear hd
    go_enter Try.func71, Try.ntmps71
    go_wp2
    go_ret
    refine ⟨?_, ?_, HG.out, Below.refl _ _⟩
    · rw [HD.out, ← HN.out]; rfl
    · rw [HD.out]; exact HR.out
  · have h2' : ¬ (n : Int) < 2 := by omega
    have C0 : Hid (CoRel w L (.int .i64 1) w) := Lib.hid ⟨0, by have := HN.out; omega, rfl, fun k h1 h3 => by omega, Below.refl _ _⟩
    go_enter Try.func71, Try.ntmps71
    go_wp2
    go_loopw [3] (CoRel w L) (fun i _ => n - (intOf i).toNat)
    case atStart => exact C0.out
    case round =>
      obtain ⟨q, hq, rfl, hne, hb⟩ := hrel
      clear C0
      rw [← HN.out] at hq
      have HNE := Lib.hid hne
      have HB := Lib.hid hb
      have hr2 := range_keep HR.out (hb.block g HG.out)
      have hgr : g < wr.heap.size := Nat.lt_of_lt_of_le HG.out hb.size
      have HGR : Hid (g < wr.heap.size) := Lib.hid hgr
      by_cases hlt : q + 1 < n
      · have hlt' : (q : Int) + 1 < (n : Int) := by omega
        obtain ⟨x, hx⟩ : ∃ x, L[q + 1]? = some x := ⟨L[q + 1]'(by have := HN.out; omega), List.getElem?_eq_getElem _⟩
        obtain ⟨y, hy⟩ : ∃ y, L[q]? = some y := ⟨L[q]'(by have := HN.out; omega), List.getElem?_eq_getElem _⟩
        have l1 := kept_range26 hgr (range_part hr2 hx)
        have l2 := kept_range26 hgr (range_part hr2 hy)
        rw [Nat.zero_add] at l1 l2
        have HL1 := Lib.hid l1
        have HL2 := Lib.hid l2
        have HX := Lib.hid hx
        have HY := Lib.hid hy
        have hE := fun W => eq61 x.val y.val x.property y.property W
        change ∀ W, (Op.equalIn 10000 26 (.agg (encID x).toArray) (.agg (encID y).toArray)).run Try.prog W = .ok (x.val == y.val) W at hE
        clear hne hb hr2 hgr l1 l2 hx hy
        by_cases hxy : x = y
        · have hE2 : ∀ W, (Op.equalIn 10000 26 (.agg (encID x).toArray) (.agg (encID y).toArray)).run Try.prog W = .ok true W := fun W => by rw [hE, hxy]; simp
          have HXY := Lib.hid hxy
          clear hE hxy
          go_upto_region 6 with fail
          refine wp_region_kept wr.heap.size wr (Below.refl _ _) (by kernel_rfl) (by kernel_rfl) ?_
          repeat (first
            | (go_big_quiet_want; (with_reducible refine quiet_loadV 26 (.tmp 18) rfl _ ?_ _ HL1.out ?_); rfl; simp only [Act.put, List.setIfInBounds_toArray, List.set_cons_zero, List.set_cons_succ]; go_big_quiet_on)
            | (go_big_quiet_want; (with_reducible refine quiet_loadV 26 (.tmp 23) rfl _ ?_ _ HL2.out ?_); rfl; simp only [Act.put, List.setIfInBounds_toArray, List.set_cons_zero, List.set_cons_succ]; go_big_quiet_on)
            | go_big_quiet_step (fail))
          refine wpQuiet_nil ?_
          rintro wk ⟨⟨_, hwk⟩, rfl⟩
          have hbk := HB.out.trans (hwk.mono HB.out.size)
          obtain ⟨k, hk⟩ : ∃ k, k = q + 1 := ⟨_, rfl⟩
          have I0 : Hid (CiRel w B g k L (.int .i64 ((q : Int) + 1)) (.int .i64 1) wk) := Lib.hid (by
            have e := HN.out
            have hdk : dd L (k + 0 + 1) = L.take k := by
              rw [hk]
              show dd L (q + 1 + 1) = _
              rw [dd_same (Nat.succ_pos q) HX.out (by show L[q]? = _; rw [HY.out, HXY.out]), dd_all L (q + 1) (by omega) HNE.out]
            have hrk := range_keep HR.out (hbk.block g HG.out)
            have hlk : (dd L (k + 0 + 1)).length = k := by rw [hdk, List.length_take]; omega
            refine ⟨0, k, rfl, by omega, hlk.symm, by rw [hk]; rfl, by omega, ?_, ?_, there_keep HT.out (hbk.block g HG.out), hbk.size, hbk.mono (Nat.le_trans HBB.out (Nat.le_of_lt HG.out))⟩
            · rw [hdk, flatI_take]
              exact range_first hrk _
            · rw [flatI_drop]
              exact range_sub hrk _ _ (by omega))
          have hkc : q + 1 ≤ cap := by omega
          have hkc2 : ¬ cap = q + 1 := by omega
          have hkc3 : q + 1 ≤ n := by omega
          have HK : Hid (k = q + 1) := Lib.hid hk
          clear hwk hbk HL1 HL2 HX HY HXY HNE HB hE2 HR HT
          go_upto_region 9 with fail
          obtain ⟨p, hp⟩ : ∃ p, p = n - (q + 1) := ⟨_, rfl⟩
          rw [← hp]
          have hpn : q + 1 + p = n := by omega
          clear hp hk hkc hkc2 hkc3 HGR
          go_loopw [3, 5] (CiRel w B g k L) (fun _ i _ => p - (intOf i).toNat)
          case atStart => exact I0.out
          case round =>
            obtain ⟨r, kk, rfl, hr1, hkk, rfl, hkr, hra, hrb, hth, hsz, hbe⟩ := hrel
            clear I0
            have HKK := Lib.hid hkk
            have HRA := Lib.hid hra
            have HRB := Lib.hid hrb
            have HTH := Lib.hid hth
            have HSZ : Hid (w.heap.size ≤ wr.heap.size) := Lib.hid hsz
            have HBE := Lib.hid hbe
            have hk := HK.out
            have hn := HN.out
            have hgr : g < wr.heap.size := Nat.lt_of_lt_of_le HG.out hsz
            by_cases hlt2 : r + 1 < p
            · have hlt3 : (r : Int) + 1 < (p : Int) := by omega
              obtain ⟨x2, hx⟩ : ∃ x, L[k + r + 1]? = some x := ⟨L[k + r + 1]'(by omega), List.getElem?_eq_getElem _⟩
              obtain ⟨y2, hy⟩ : ∃ y, L[k + r]? = some y := ⟨L[k + r]'(by omega), List.getElem?_eq_getElem _⟩
              have l0 := CiRel.at_ hrb (by omega) hx
              have l1 := kept_range26 hgr l0
              have l2 := kept_range26 hgr (CiRel.at_ hrb (by omega) hy)
              rw [show (k + r + 1) * 20 = (q + 1) * 20 + (r + 1) * 20 by omega] at l1 l0
              rw [show (k + r) * 20 = (q + 1) * 20 + r * 20 by omega] at l2
              have HL0 := Lib.hid l0
              have HL1 := Lib.hid l1
              have HL2 := Lib.hid l2
              have HX := Lib.hid hx
              have HY := Lib.hid hy
              have hE := fun W => eq61 x2.val y2.val x2.property y2.property W
              change ∀ W, (Op.equalIn 10000 26 (.agg (encID x2).toArray) (.agg (encID y2).toArray)).run Try.prog W = .ok (x2.val == y2.val) W at hE
              have HGR : Hid (g < wr.heap.size) := Lib.hid hgr
              have hr1' : k + r + 1 + 1 ≤ L.length := by omega
              have HR1 : Hid (k + r + 1 + 1 ≤ L.length) := Lib.hid hr1'
              have hkk' : kk < n := by omega
              clear hkk hra hrb hth hsz hbe l0 l1 l2 hx hy hgr hr1 hr1' hn
              by_cases hxy : x2 = y2
              · have hE2 : ∀ W, (Op.equalIn 10000 26 (.agg (encID x2).toArray) (.agg (encID y2).toArray)).run Try.prog W = .ok true W := fun W => by rw [hE, hxy]; simp
                have HXY := Lib.hid hxy
                clear hE hxy
                go_upto_region 11 with fail
                refine wp_region_kept wr.heap.size wr (Below.refl _ _) (by kernel_rfl) (by kernel_rfl) ?_
                repeat (first
                  | (go_big_quiet_want; (with_reducible refine quiet_loadV 26 (.tmp 37) rfl _ ?_ _ HL1.out ?_); rfl; simp only [Act.put, List.setIfInBounds_toArray, List.set_cons_zero, List.set_cons_succ]; go_big_quiet_on)
                  | (go_big_quiet_want; (with_reducible refine quiet_loadV 26 (.tmp 42) rfl _ ?_ _ HL2.out ?_); rfl; simp only [Act.put, List.setIfInBounds_toArray, List.set_cons_zero, List.set_cons_succ]; go_big_quiet_on)
                  | go_big_quiet_step (fail))
                refine wpQuiet_nil ?_
                rintro wz ⟨⟨_, hwz⟩, rfl⟩
                have HREL : Hid (CiRel w B g k L (.int .i64 (kk : Int)) (.int .i64 ((r : Int) + 1 + 1)) wz) := Lib.hid (by
                  have hb := hwz.block g HGR.out
                  have hd : dd L (k + (r + 1) + 1) = dd L (k + r + 1) := dd_same (Nat.succ_pos _) HX.out (by show L[k + r]? = _; rw [HY.out, HXY.out])
                  refine ⟨r + 1, kk, by go_num, HR1.out, by rw [hd]; exact HKK.out, rfl, by omega, by rw [hd]; exact range_keep HRA.out hb, range_keep HRB.out hb, there_keep HTH.out hb, Nat.le_trans HSZ.out hwz.size, HBE.out.trans (hwz.mono (Nat.le_trans HBB.out (Nat.le_of_lt HGR.out)))⟩)
                clear hwz HL0 HL1 HL2 HX HY HXY HKK HRA HRB HTH HBE hE2
                go_wp2
                go_roundw
                case rel => exact HREL.out
                case measure => simp [intOf]; omega
              · have hE2 : ∀ W, (Op.equalIn 10000 26 (.agg (encID x2).toArray) (.agg (encID y2).toArray)).run Try.prog W = .ok false W := fun W => by
                  rw [hE, beq_eq_false_iff_ne.2 (fun e => hxy (Subtype.ext e))]
                have HXY := Lib.hid hxy
                clear hE hxy
                go_upto_region 11 with fail
                refine wp_region_kept wr.heap.size wr (Below.refl _ _) (by kernel_rfl) (by kernel_rfl) ?_
                repeat (first
                  | (go_big_quiet_want; (with_reducible refine quiet_loadV 26 (.tmp 37) rfl _ ?_ _ HL1.out ?_); rfl; simp only [Act.put, List.setIfInBounds_toArray, List.set_cons_zero, List.set_cons_succ]; go_big_quiet_on)
                  | (go_big_quiet_want; (with_reducible refine quiet_loadV 26 (.tmp 42) rfl _ ?_ _ HL2.out ?_); rfl; simp only [Act.put, List.setIfInBounds_toArray, List.set_cons_zero, List.set_cons_succ]; go_big_quiet_on)
                  | go_big_quiet_step (fail))
                refine wpQuiet_nil ?_
                rintro wz ⟨⟨_, hwz⟩, rfl⟩
                have hb := hwz.block g HGR.out
                have HL3 := Lib.hid (range_load26 (range_keep HL0.out hb))
                have hth2 := there_keep HTH.out hb
                have HTS : Hid (wz.there g (kk * 20) (encID x2).toArray.size) := Lib.hid (there_part hth2 (Nat.zero_le _) (by rw [enc_size, ← HN.out]; omega))
                have S1 : Hid ((Try.prog.info? 26).map (·.size) = some (encID x2).toArray.size) := Lib.hid (by rw [enc_size]; exact size26)
                have S3 : Hid ((encID x2).toArray.all (·.oneCell') = true) := Lib.hid (enc_all x2)
                have HREL : Hid (CiRel w B g k L (.int .i64 ((kk : Int) + 1)) (.int .i64 ((r : Int) + 1 + 1)) (wz.setCells g (kk * 20) (encID x2).toArray.toList)) := Lib.hid (by
                  have hd : dd L (k + (r + 1) + 1) = dd L (k + r + 1) ++ [x2] := dd_diff HX.out (by
                    rintro ⟨_, h2⟩
                    have h3 : L[k + r]? = some x2 := h2
                    rw [HY.out] at h3
                    injection h3 with h3
                    exact HXY.out h3.symm)
                  have hle : (flatI (dd L (k + r + 1))).length = kk * 20 := by rw [flatI_length, ← HKK.out]
                  have hel : (encID x2).toArray.toList = encID x2 := rfl
                  rw [hel]
                  have hts : wz.there g (kk * 20) (encID x2).length := HTS.out
                  refine ⟨r + 1, kk + 1, by go_num, HR1.out, by rw [hd, List.length_append, ← HKK.out]; rfl, by go_num, by omega, ?_, ?_, World.there_setCells hth2 _ _ _, ?_, ?_⟩
                  · rw [hd, flatI_append, flatI_one']
                    refine range_append (World.rangeAt_setCells_apart (range_keep HRA.out hb) _ _ _ (.inr (.inl (by rw [hle]; omega)))) ?_
                    rw [hle, Nat.zero_add]
                    exact World.rangeAt_setCells_same _ _ _ _ hts
                  · refine World.rangeAt_setCells_apart ?_ _ _ _ (.inr (.inr (by rw [encID_length]; omega)))
                    have := range_sub (range_keep HRB.out hb) 20 ((kk + 1) * 20) (by omega)
                    have e2 : (flatI (L.drop kk)).drop 20 = flatI (L.drop (kk + 1)) := by
                      have := flatI_drop (L.drop kk) 1
                      rw [List.drop_drop] at this
                      rw [this]
                    rwa [e2] at this
                  · rw [Go.Sort.size_setCells]
                    exact Nat.le_trans HSZ.out hwz.size
                  · exact below_cells HBB.out _ _ _ (HBE.out.trans (hwz.mono (Nat.le_trans HBB.out (Nat.le_of_lt HGR.out)))))
                clear hwz hb hth2 HL0 HL1 HL2 HX HY HXY HKK HRA HRB HTH HBE hE2
                go_upto_region 13 with (first
                  | ((with_reducible refine wpList_loadV (op := ⟨some 50, _, _, _, _, _⟩) rfl 26 (.tmp 49) rfl _ ?_ _ HL3.out ?_); rfl)
                  | ((with_reducible refine wpList_store_mid rfl 26 (.tmp 51) (.tmp 50) rfl g (kk * 20) (encID x2).toArray ?_ ?_ HTS.out S1.out S3.out ?_); rfl; rfl))
                go_wp2
                go_roundw
                case rel => exact HREL.out
                case measure => simp [intOf]; omega
            · have hlt3 : ¬ (r : Int) + 1 < (p : Int) := by omega
              have hrn : k + r + 1 = n := by omega
              rw [hrn] at HKK HRA
              have hkn : kk ≤ n := by omega
              have hkc : kk ≤ cap := by omega
              have hkc2 : ¬ cap = kk := by omega
              have HTS : Hid (wr.there g (kk * 20) ((n - kk) * 20)) := Lib.hid (there_part hth (Nat.zero_le _) (by rw [← HN.out]; omega))
              have HFIN : Hid (∀ vs, vs.length = (n - kk) * 20 → (wr.setCells g (kk * 20) vs).rangeAt g 0 (flatI (dd L n)) ∧ g < (wr.setCells g (kk * 20) vs).heap.size ∧ Below B w (wr.setCells g (kk * 20) vs)) := Lib.hid (fun vs _ => by
                refine ⟨World.rangeAt_setCells_apart HRA.out _ _ _ (.inr (.inl (by rw [flatI_length, ← HKK.out]; omega))), ?_, below_cells HBB.out _ _ _ hbe⟩
                rw [Go.Sort.size_setCells]
                exact hgr)
              clear hkk hra hrb hth hsz hbe hgr hr1 hn HTH HRB HBE HRA hrn
              go_wp2_with (first
                | ((with_reducible refine wpList_clear_ids rfl (.tmp 56) rfl g (kk * 20) (n - kk) (cap - kk) ?_ HTS.out ?_); rfl; intro vs hvs))
              go_ret
              refine ⟨?_, HFIN.out vs hvs⟩
              rw [← HKK.out]
              rfl
        · have hE2 : ∀ W, (Op.equalIn 10000 26 (.agg (encID x).toArray) (.agg (encID y).toArray)).run Try.prog W = .ok false W := fun W => by
            rw [hE, beq_eq_false_iff_ne.2 (fun e => hxy (Subtype.ext e))]
          have HXY := Lib.hid hxy
          clear hE hxy
          go_upto_region 6 with fail
          refine wp_region_kept wr.heap.size wr (Below.refl _ _) (by kernel_rfl) (by kernel_rfl) ?_
          repeat (first
            | (go_big_quiet_want; (with_reducible refine quiet_loadV 26 (.tmp 18) rfl _ ?_ _ HL1.out ?_); rfl; simp only [Act.put, List.setIfInBounds_toArray, List.set_cons_zero, List.set_cons_succ]; go_big_quiet_on)
            | (go_big_quiet_want; (with_reducible refine quiet_loadV 26 (.tmp 23) rfl _ ?_ _ HL2.out ?_); rfl; simp only [Act.put, List.setIfInBounds_toArray, List.set_cons_zero, List.set_cons_succ]; go_big_quiet_on)
            | go_big_quiet_step (fail))
          refine wpQuiet_nil ?_
          rintro wk ⟨⟨_, hwk⟩, rfl⟩
          have HREL : Hid (CoRel w L (.int .i64 ((q : Int) + 1 + 1)) wk) := Lib.hid (by
            refine ⟨q + 1, by rw [← HN.out]; omega, by go_num, fun k h1 h3 => ?_, HB.out.trans (hwk.mono HB.out.size)⟩
            by_cases e : k = q + 1
            · subst e
              rw [HX.out]
              show _ ≠ L[q]?
              rw [HY.out]
              intro e
              injection e with e
              exact HXY.out e
            · exact HNE.out k h1 (by omega))
          clear hwk HL1 HL2 HX HY HXY HNE HB hE2 HR HT
          go_wp2
          go_roundw
          case rel => exact HREL.out
          case measure => simp [intOf]; omega
      · have hlt' : ¬ (q : Int) + 1 < (n : Int) := by omega
        have hd : dd L n = L := by
          rw [dd_all L n (by rw [HN.out]; exact Nat.le_refl _) (fun k h1 h3 => hne k h1 (by omega)), HN.out, List.take_length]
        have HD := Lib.hid hd
        have HRF := Lib.hid hr2
        clear hd hr2 hne hb hgr
        go_wp2
        go_ret
        refine ⟨?_, ?_, HGR.out, HB.out.mono (Nat.le_trans HBB.out (Nat.le_of_lt HG.out))⟩
        · rw [HD.out, ← HN.out]; rfl
        · rw [HD.out]; exact HRF.out
end Go.Proofs.Ytcoiaddjfeaciaa
end
section
namespace Go.Proofs.Ytcoiaddjfeaciaa
set_option maxRecDepth 100000
set_option maxHeartbeats 1000000
open Go.RowKit Go.Lib Go.Great Go.Shelf Go.Sort

theorem flatK_get (L : List IDv) (t : Nat) (ht : t < L.length * 20) : (flatI L)[t]? = some (flatK encID 20 L.toArray)[t]! := by
  have hi : t / 20 < L.length := by omega
  rw [get_flatK _ _ _ _ (by simpa using ht)]
  have e := flatI_get (List.getElem?_eq_getElem hi) (t % 20) (Nat.mod_lt _ (by omega))
  rw [show t / 20 * 20 + t % 20 = t by omega] at e
  rw [e, getElem!_pos L.toArray (t / 20) (by simpa using hi)]
  have hc : t % 20 < (encID L[t / 20]).length := by rw [encID_length]; exact Nat.mod_lt _ (by omega)
  rw [List.getElem?_eq_getElem hc]
  simp [hc]
theorem holdsK_iff {W : World} {g : Nat} {L : List IDv} (hr : W.rangeAt g 0 (flatI L)) (ht : W.there g 0 (L.length * 20)) : HoldsK encID 20 W g 0 L.toArray := fun j hj => by
  have hj' : j < L.length * 20 := by simpa using hj
  exact ⟨hr j _ (flatK_get L j hj'), (ht j hj').2⟩
theorem holdsK_back {W : World} {g : Nat} {d : Array IDv} (h : HoldsK encID 20 W g 0 d) : W.rangeAt g 0 (flatI d.toList) ∧ W.there g 0 (d.size * 20) := by
  have hj : ∀ j, j < d.size * 20 → W.cell? ⟨g, 0 + j, none⟩ = (flatI d.toList)[j]? ∧ W.frozen? ⟨g, 0 + j, none⟩ = false := fun j hj => by
    have := h j (by simpa using hj)
    rw [flatK_get d.toList j (by simpa using hj)]
    exact this
  refine ⟨fun j v hv => ?_, fun j h1 => ?_⟩
  · have h1 := (List.getElem?_eq_some_iff.1 hv).1
    rw [flatI_length] at h1
    rw [(hj j (by simpa using h1)).1, hv]
  · obtain ⟨e1, e2⟩ := hj j h1
    refine ⟨?_, e2⟩
    rw [e1, List.getElem?_eq_getElem (by rw [flatI_length]; simpa using h1)]
    rfl
theorem there_own {W : World} {base g n cap : Nat} {e : TypeId} {xs : List Value} (h : W.ownsRow base e 20 (.slice (some ⟨g, 0, none⟩) n cap) n xs) : W.there g 0 (n * 20) := by
  rcases h.2 with ⟨e0, _⟩ | ⟨g', cap', cur, e0, hb, hg, hn, hm, hs, ht⟩
  · cases e0
  · injection e0 with e1 _ e3
    injection e1 with e1
    injection e1 with e1
    subst e1
    subst e3
    intro j hj
    have hc : j < cur.size := by
      rw [hs]
      exact Nat.lt_of_lt_of_le hj (Nat.mul_le_mul_right _ hn)
    refine ⟨?_, by simp [World.frozen?, hg]⟩
    rw [cell_of_row _ _ _ _ _ _ hg, Array.getElem?_eq_getElem (by omega)]
    rfl
theorem sort_world {W : World} {B g n : Nat} {os : Array Obj} {L : List IDv} {d' : Array IDv} (hH : HoldsK encID 20 W g 0 L.toArray) (hg : g < W.heap.size) (hB : B ≤ g) (hs : d'.size = L.length) :
    (sortWorldK encID 20 W g 0 n d' os).rangeAt g 0 (flatI d'.toList) ∧ (sortWorldK encID 20 W g 0 n d' os).there g 0 (d'.toList.length * 20) ∧ g < (sortWorldK encID 20 W g 0 n d' os).heap.size ∧ Below B W (sortWorldK encID 20 W g 0 n d' os) := by
  have h := holdsK_back (holdsK_sortWorldK encID 20 W g 0 n L.toArray d' os hg hH (by simpa using hs))
  refine ⟨h.1, by simpa using h.2, lt_sortWorldK encID 20 W g 0 n d' os hg, ?_⟩
  have hb : Below B W (putRow id (Sort.ahead W n) g 0 (flatK encID 20 d')) := below_putRow (Below.refl _ _) hB
  unfold sortWorldK putRowK
  refine ⟨hb.os, hb.tape, hb.output, ?_, fun k hk => ?_⟩
  · unfold grow
    rw [Array.size_append]
    exact Nat.le_trans hb.size (Nat.le_add_right _ _)
  · rw [← hb.block k hk]
    unfold grow
    rw [Array.getElem?_append_left]
    exact Nat.lt_of_lt_of_le hk (Nat.le_trans (Nat.le_trans hB (Nat.le_of_lt hg)) hb.size)
theorem dd_nil : dd [] 0 = [] := rfl

theorem sort_none (p : Option Addr) (cap : Nat) (fv : Value) (w : World) : Calls Try.prog 69 #[.slice p 0 cap, fv] w fun e w' => e = .returned (.tuple #[]) ∧ w' = w :=
  AnyF.slices_SortFunc_none Try.sortID p cap fv w
theorem compact_nil (w : World) : Calls Try.prog 71 #[.slice none 0 0] w fun e w' => e = .returned (.slice none 0 0) ∧ w' = w := by
  go_enter Try.func71, Try.ntmps71
  go_wp2
  go_ret
  exact ⟨rfl, rfl⟩
theorem wpList_build_none {t e : TypeId} (hT : IdT t e) {w : World} {ops : Array Oper} {rest : List Oper} {o : Oper} {a : Act} {Q : Exit → Act → World → Prop} (hgd : o.guard = none) (ho : o.op = .buildSlice t 0 #[])
    (h : wpList Try.prog ops Q rest (a.put o.dst (.slice (some ⟨w.heap.size, 0, none⟩) 0 0)) (w.alloc (.cells #[] e))) : wpList Try.prog ops Q (o :: rest) a w :=
  wpList_plain hgd fun _ hK => by
    unfold Oper.wp execOp
    simp only [ho, List.map_toArray, List.map_nil, Sem.run_bind, run_build_none hT, Result.andThen_ok, Sem.run_pure]
    exact hK _ _ h
/-- Clone at whatever row. -/
theorem clone_any (A : Option Addr) (c : Nat) (L : List IDv) (w : World) (hL : L.length ≤ 50000) (hA : IAt w w.heap.size A L) :
    Calls Try.prog 68 #[.slice A L.length c] w fun e w' => ∃ v, e = .returned v ∧ w'.ownsRow w.heap.size 26 20 v L.length (flatI L) ∧ (L = [] ∨ v ≠ .slice none 0 0) ∧ Below w.heap.size w w' := by
  have HA := Lib.hid hA
  obtain ⟨n, hn⟩ : ∃ n, n = L.length := ⟨_, rfl⟩
  have HN := Lib.hid hn
  rw [← hn]
  clear hA
  cases A with
  | none =>
    have hl := HA.out.none_
    have HO : Hid (w.ownsRow w.heap.size 26 20 (.slice none 0 0) n (flatI L)) := Lib.hid (by rw [hn, hl]; exact World.ownsRow_nil _ _ _ _)
    have HL := Lib.hid hl
    have he := fun W => Go.Lib.run_eql_slice_nil (P := Try.prog) W 62 26 none n c 0 0 und62
    simp only [Option.isNone_none] at he
    clear hl hn hL
    go_enter Try.func68, Try.ntmps68
    go_wp2
    go_ret
    exact ⟨_, rfl, HO.out, .inl HL.out, Below.refl _ _⟩
  | some a =>
    have HS : Hid (Src Try.prog 20 62 (.slice (some a) n c) n (flatI L) (w.alloc (.cells #[] 26))) := Lib.hid (by
      rw [hn]
      exact (HA.out.below ((Below.refl _ w).alloc (Nat.le_refl _) _)).src und62 c)
    have HO := Lib.hid (own_none IdT.api w w.heap.size (Nat.le_refl _))
    have HB := Lib.hid ((Below.refl w.heap.size w).alloc (Nat.le_refl _) (.cells #[] 26))
    have HM : Hid (0 + n ≤ 100000) := Lib.hid (by omega)
    have he := fun W => Go.Lib.run_eql_slice_nil (P := Try.prog) W 62 26 (some a) n c 0 0 und62
    simp only [Option.isNone_some] at he
    clear hL hn
    go_enter Try.func68, Try.ntmps68
    go_wp2_with (first
      | (with_reducible refine wpList_build_none IdT.api rfl rfl ?_)
      | (refine wpList_append_ids IdT.api _ rfl (.tmp 5) (.tmp 6) rfl w.heap.size _ 0 [] rfl HO.out _ n L rfl HS.out HM.out HB.out.size ?_; intro v2 w2 ho2 hg2 hat2))
    go_ret
    refine ⟨_, rfl, ?_, ?_, ?_⟩
    · rw [Nat.zero_add, List.nil_append] at ho2
      exact ho2
    · right
      intro e
      rcases hat2 with h | h
      · have := congrArg Value.ownBlock e
        change v2.ownBlock = none at this
        rw [h] at this
        cases this
      · have := congrArg Value.ownBlock e
        change v2.ownBlock = none at this
        rw [h] at this
        cases this
    · exact HB.out.grown hg2 HB.out.size (fun k hk => (HO.out.lt k hk).1)
end Go.Proofs.Ytcoiaddjfeaciaa
end
section
namespace Go.Proofs.Ytcoiaddjfeaciaa
set_option maxRecDepth 100000
set_option maxHeartbeats 1000000
open Go.RowKit Go.Lib Go.Great Go.Shelf Go.Sort

/-- With fv, slices.SortFunc sorts by key, in the world W. -/
def SortsBy (fv : Value) (key : IDv → Nat) (W : World) : Prop := ∀ (g cap : Nat) (L : List IDv), L.length ≤ 50000 → g < W.heap.size → W.rangeAt g 0 (flatI L) → W.there g 0 (L.length * 20) →
  Calls Try.prog 69 #[.slice (some ⟨g, 0, none⟩) L.length cap, fv] W fun e w' => e = .returned (.tuple #[]) ∧ ∃ L' : List IDv, L'.length = L.length ∧ IsSet key (dd L' L'.length) L ∧ w'.rangeAt g 0 (flatI L') ∧ w'.there g 0 (L'.length * 20) ∧ g < w'.heap.size ∧ Below g W w'
theorem sorts_id (W : World) : SortsBy (.func (.func 70) #[] #[]) nID W := fun g cap L hL hg hr ht => by
  have h := sortf_any g 0 cap L.toArray W (holdsK_iff hr ht) hg (by simp; omega)
  have hsz : L.toArray.size = L.length := by simp
  rw [hsz] at h
  refine h.mono ?_
  rintro e w' ⟨rfl, d', n, os, hp, hs, rfl⟩
  obtain ⟨h1, h2⟩ := sorted_set nID_inj ltID L d' hp hs
  obtain ⟨k1, k2, k3, k4⟩ := sort_world (n := n) (os := os) (holdsK_iff hr ht) hg (Nat.le_refl g) (by simpa using h1)
  exact ⟨rfl, d'.toList, h1, by rw [h1]; exact h2, k1, k2, k3, k4⟩

theorem isort_any (A : Option Addr) (c : Nat) (L : List IDv) (w : World) (hL : L.length ≤ 50000) (hA : IAt w w.heap.size A L) :
    Calls Try.prog 40 #[.slice A L.length c] w fun e w' => ∃ A' c' out, e = .returned (.slice A' out.length c') ∧ IsSet nID out L ∧ out.length ≤ L.length ∧ IAt w' w'.heap.size A' out ∧ Below w.heap.size w w' := by
  have HC := Lib.hid (clone_any A c L w hL hA)
  have HL : Hid (L.length ≤ 50000) := Lib.hid hL
  generalize L.length = n at HC ⊢
  clear hA hL
  go_enter Try.func40, Try.ntmps40
  go_upto_region 2 with (go_at_call 68; refine HC.out.mono ?_; rintro e w1 ⟨v, rfl, ho, hne, hb⟩)
  obtain ⟨A1, c1, rfl, hn1, hcap, hform⟩ := own_form ho
  have HB := Lib.hid hb
  have HO := Lib.hid ho
  have HN : Hid (n = L.length) := Lib.hid hn1
  clear HC hn1 hb ho
  rcases hform with ⟨rfl, hl, rfl⟩ | ⟨g, rfl, hbg, hgw, hrg⟩
  · subst hl
    clear hne hcap
    go_wp2_with (first
      | (go_at_call 69; refine (sort_none _ _ _ _).mono ?_; rintro e w2 ⟨rfl, rfl⟩)
      | (go_at_call 71; refine (compact_nil _).mono ?_; rintro e w2 ⟨rfl, rfl⟩))
    go_ret
    exact ⟨none, 0, [], rfl, IsSet.nil, by simp, IAt.nil_, HB.out⟩
  · have ho2 := HO.out
    rw [HN.out] at ho2
    have HSO := Lib.hid (sorts_id w1 g c1 L HL.out hgw hrg (there_own ho2))
    clear hne hrg ho2 HO
    obtain ⟨m, hm⟩ : ∃ m, m = L.length := ⟨_, rfl⟩
    rw [← hm] at HSO hcap ⊢
    have HM : Hid (m = L.length) := Lib.hid hm
    clear hm
    go_upto_region 3 with (go_at_call 69; refine HSO.out.mono ?_; rintro e w2 ⟨rfl, L', hl', hset, hr2, ht2, hg2, hb2⟩)
    have hcp := compact_any g c1 w.heap.size L' w2 (by have := HL.out; have := HM.out; omega) (by omega) hbg hg2 hr2 ht2
    have hle := dd_len L' L'.length
    rw [hl'] at hcp hset hle
    have HCP := Lib.hid hcp
    have HST := Lib.hid hset
    have HLE : Hid ((dd L' m).length ≤ n) := Lib.hid (by rw [HN.out, ← HM.out]; exact hle)
    have HB2 := Lib.hid (HB.out.trans (hb2.mono hbg))
    clear hcp hset hle hl' hr2 ht2 hg2 hb2 HSO
    go_wp2_with (go_at_call 71; refine HCP.out.mono ?_; rintro e w3 ⟨rfl, hr3, hg3, hb3⟩)
    go_ret
    exact ⟨_, _, dd L' m, rfl, HST.out, HLE.out, .inr ⟨g, 0, rfl, hg3, hr3⟩, HB2.out.trans hb3⟩
end Go.Proofs.Ytcoiaddjfeaciaa
end
