/- Contract of the reference's numbers of layer addr. Conditions: a text of fewer than 1000 bytes. -/
import Derived.Test.YtieeffebecghiaaDoorPAre
import Derived.StillTailTactics
namespace Go.Proofs.YtieeffebecghiaaDoor
set_option maxRecDepth 100000
set_option maxHeartbeats 1000000
open Go.RowKit Go.Lib Go.Great

theorem own_some {w : World} {base n : Nat} {v : Value} {L : List Nat} (h : w.ownsRow base 3 1 v n (intsL L)) (hL : L ≠ []) : ∃ g cap, v = .slice (some ⟨g, 0, none⟩) L.length cap ∧ n = L.length ∧ L.length ≤ cap ∧ base ≤ g ∧ g < w.heap.size ∧ (∀ (j m : Nat), L[j]? = some m → w.cell? ⟨g, j, none⟩ = some (.int .i64 (m : Int))) ∧ ∀ j, j < L.length → w.frozen? ⟨g, j, none⟩ = false := by
  have hl := h.1
  rw [intsL_length, Nat.mul_one] at hl
  rcases h.2 with ⟨rfl, h0⟩ | ⟨g, cap, cur, rfl, hb, hg, hc, _⟩
  · exact absurd (List.eq_nil_of_length_eq_zero (by omega)) hL
  · refine ⟨g, cap, by rw [hl], hl.symm, by omega, hb, (Array.getElem?_eq_some_iff.1 hg).1, fun j m hm => ?_, fun j _ => frozen_of_row w g j _ 3 hg⟩
    have := h.cells (g := g) rfl j (.int .i64 (m : Int)) (by simp [intsL, hm])
    rwa [Addr.add_mid, Nat.zero_add] at this
theorem own_setLast {w : World} {base g cap : Nat} {L : List Nat} {a b : Nat} (h : w.ownsRow base 3 1 (.slice (some ⟨g, 0, none⟩) (L ++ [a]).length cap) (L ++ [a]).length (intsL (L ++ [a]))) :
    (w.setCell ⟨g, L.length, none⟩ (.int .i64 (b : Int))).ownsRow base 3 1 (.slice (some ⟨g, 0, none⟩) (L ++ [b]).length cap) (L ++ [b]).length (intsL (L ++ [b])) := by
  refine ⟨by rw [intsL_length, Nat.mul_one], .inr ?_⟩
  rcases h.2 with ⟨e, _⟩ | ⟨g', cap', cur, e, hb, hg, hn, hm, hs, ht⟩
  · cases e
  · injection e with e1 _ e3
    injection e1 with e1
    injection e1 with e1
    subst e1
    subst e3
    have hll : (L ++ [a]).length = (L ++ [b]).length := by simp
    refine ⟨g, cap, _, rfl, hb, heap_setCell_same w g L.length cur 3 _ hg, by rw [← hll]; exact hn, hm, by simpa using hs, ?_⟩
    have h1 : cur.toList.take (L.length + 1) = intsL L ++ [.int .i64 (a : Int)] := by
      have := ht
      rw [Nat.mul_one, List.length_append] at this
      rw [show L.length + 1 = L.length + [a].length from rfl, this, intsL_append]
      rfl
    have hlen : L.length + 1 ≤ cur.toList.length := by
      have := congrArg List.length h1
      rw [List.length_take, List.length_append, intsL_length] at this
      simp at this
      simp
      omega
    have h2 : cur.toList.take L.length = intsL L := by
      have := congrArg (List.take L.length) h1
      rw [List.take_take, Nat.min_eq_left (by omega)] at this
      rw [this, List.take_left' (by rw [intsL_length])]
    rw [Nat.mul_one, List.length_append, Array.toList_setIfInBounds, List.length_singleton, List.take_succ_eq_append_getElem (by rw [List.length_set]; omega), List.take_set_of_le (by omega), h2, List.getElem_set_self, intsL_append]
    rfl

theorem src_int0 (W : World) : Src Tryd.prog 1 55 (.slice (some ⟨W.heap.size, 0, none⟩) 1 1) [0].length (intsL [0]) (W.alloc (.cells #[.int .i64 0] 3)) := src_int 0 W
/-- A number that numbers tells, and one more digit. -/
theorem step_on (L : List Nat) (a : Nat) (b : UInt8) (hb : isDig b = true) : numsStep (L ++ [a], true) b = (L ++ [min (a * 10 + (b.toNat - 48)) 999999], true) := by
  unfold numsStep
  rw [if_pos hb]
  simp only [if_true, List.dropLast_concat, List.getLastD_concat]
theorem step_off (L : List Nat) (b : UInt8) (hb : isDig b = true) : numsStep (L, false) b = (L ++ [min (0 * 10 + (b.toNat - 48)) 999999], true) := by
  unfold numsStep
  rw [if_pos hb]
  simp only [Bool.false_eq_true, if_false, List.dropLast_concat, List.getLastD_concat]
theorem step_no (st : List Nat × Bool) (b : UInt8) (hb : isDig b = false) : numsStep st b = (st.1, false) := by
  unfold numsStep
  rw [hb]
  rfl
theorem numsL_take (s : List UInt8) (j : Nat) (hj : j < s.length) : numsL (s.take (j + 1)) = numsStep (numsL (s.take j)) s[j] := by
  rw [List.take_succ_eq_append_getElem hj, numsL_append]
  rfl
def NuRel (w : World) (s : List UInt8) (v on i : Value) (wr : World) : Prop := ∃ j : Nat, j ≤ s.length ∧ i = .int .i64 (j : Int) ∧ on = .bool (numsL (s.take j)).2 ∧ ((numsL (s.take j)).2 = true → (numsL (s.take j)).1 ≠ []) ∧ (∀ n ∈ (numsL (s.take j)).1, n ≤ 999999) ∧ (numsL (s.take j)).1.length ≤ j ∧
  wr.ownsRow w.heap.size 3 1 v (numsL (s.take j)).1.length (intsL (numsL (s.take j)).1) ∧ Below w.heap.size w wr
theorem rnums_any (s : List UInt8) (hs : s.length ≤ 1000) (w : World) : Calls Tryd.prog 25 #[.string (bsA s)] w fun e w' => ∃ v, e = .returned v ∧ w'.ownsRow w.heap.size 3 1 v (numsL s).1.length (intsL (numsL s).1) ∧ Below w.heap.size w w' := by
  have R0 : Hid (NuRel w s (.slice none 0 0) (.bool false) (.int .i64 0) w) := Lib.hid ⟨0, by omega, rfl, rfl, fun h => by simp [numsL] at h, fun n hn => by simp [numsL] at hn, by simp [numsL], World.ownsRow_nil w _ 3 1, Below.refl _ _⟩
  have hsz := bsA_size s
  have hget : ∀ j (hj : j < s.length), (bsA s).data[j]? = some s[j] := fun j hj => by simp [bsA, hj]
  obtain ⟨B, hB⟩ : ∃ B, B = bsA s := ⟨_, rfl⟩
  rw [← hB] at hsz hget ⊢
  have HG := Lib.hid hget
  clear hB hget
  go_enter Tryd.func25, Tryd.ntmps25
  go_upto_region 4 with fail
  go_loopw [3, 4, 5] (NuRel w s) (fun _ _ i _ => s.length - (RowKit.intOf i).toNat)
  case atStart => exact R0.out
  case round =>
    obtain ⟨j, hj, rfl, rfl, hne, hmx, hln, hown, hb⟩ := hrel
    clear R0
    have HST := Lib.hid (numsL_take s j)
    have HB := Lib.hid hb
    obtain ⟨st, hst⟩ : ∃ st, st = numsL (s.take j) := ⟨_, rfl⟩
    have HE : Hid (numsL (s.take j) = st) := Lib.hid hst.symm
    rw [← hst] at hne hmx hln hown HST ⊢
    clear hst
    by_cases hlt : j < s.length
    · have hjb : j < B.size := by omega
      have hbj : B[j]'hjb = s[j] := by
        have := HG.out j hlt
        rw [Array.getElem?_eq_getElem hjb] at this
        injection this
      have HT := Lib.hid (HST.out hlt)
      rw [← hbj] at HT
      have hjB : (j : Int) < (B.size : Int) := by omega
      have hc8 := (B[j]'hjb).toNat_lt
      by_cases hd : isDig (B[j]'hjb) = true
      · have hd' := hd
        unfold isDig at hd'
        simp only [decide_eq_true_eq] at hd'
        have d1 : ¬ ((B[j]'hjb).toNat : Int) < 48 := by omega
        have d2 : ¬ (57 : Int) < ((B[j]'hjb).toNat : Int) := by omega
        obtain ⟨L0, on⟩ := st
        simp only at hne hmx hln hown ⊢
        cases on
        · obtain ⟨a, ha0⟩ : ∃ a : Nat, a = 0 := ⟨_, rfl⟩
          have HO0 := Lib.hid hown
          have HA0 : Hid (a = 0) := Lib.hid ha0
          have HM0 := Lib.hid hmx
          have HOA : Hid ((wr.alloc (.cells #[.int .i64 0] 3)).ownsRow w.heap.size 3 1 u3 L0.length (intsL L0)) := Lib.hid (hown.alloc _)
          have HL1 : Hid (L0.length + [0].length ≤ 100000) := Lib.hid (by simp; omega)
          have HBS : Hid (w.heap.size ≤ (wr.alloc (.cells #[.int .i64 0] 3)).heap.size) := Lib.hid (by have := HB.out.size; simp; omega)
          clear hne hmx hown ha0 hbj
          go_upto_region 10 with (refine wpList_append_ints rfl (.tmp 25) (.tmp 26) rfl w.heap.size u3 L0 rfl HOA.out _ [0] rfl (src_int0 _) HL1.out HBS.out ?_; intro v2 w2 ho2 hg2)
          have HB2 := Lib.hid ((HB.out.alloc HB.out.size (.cells #[.int .i64 0] 3)).grown hg2 (by have := HB.out.size; simp; omega) (fun k hk => (HO0.out.lt k hk).1))
          have hown : w2.ownsRow w.heap.size 3 1 v2 (L0 ++ [a]).length (intsL (L0 ++ [a])) := by rw [HA0.out]; exact ho2
          have hmx : ∀ n ∈ L0 ++ [a], n ≤ 999999 := fun n hn => by
            rcases List.mem_append.1 hn with hn | hn
            · exact HM0.out n hn
            · rw [List.mem_singleton] at hn
              rw [hn, HA0.out]
              omega
          have hne : True := trivial
          clear ho2 hg2
          obtain ⟨g, cap, rfl, _, hcap, hbg, hgw, hcells, hfz⟩ := own_some hown (by simp)
          have ha : a ≤ 999999 := hmx a (by simp)
          have ca := hcells L0.length a (by simp)
          have fa := hfz L0.length (by simp)
          have hll : (L0 ++ [a]).length = L0.length + 1 := by simp
          rw [hll] at hcap
          rw [hll]
          obtain ⟨q, hq⟩ : ∃ q, q = L0.length := ⟨_, rfl⟩
          rw [← hq] at ca fa hln hcap ⊢
          have HMX := Lib.hid hmx
          have HO2 : Hid (w2.drew.ownsRow w.heap.size 3 1 (.slice (some ⟨g, 0, none⟩) (L0 ++ [a]).length cap) (L0 ++ [a]).length (intsL (L0 ++ [a]))) := Lib.hid (hown.kept (grown_of_bel (Below.refl _ w2).drew none) (by simp [Value.ownBlock]))
          have HO := Lib.hid hown
          have HQ : Hid (q = L0.length) := Lib.hid hq
          clear hown hcells hfz hmx hne hll hq
          go_upto_region 12 with fail
          have hqq : (q : Int) < (q : Int) + 1 := by omega
          have ca2 : w2.drew.cell? ⟨g, q, none⟩ = some (.int .i64 (a : Int)) := ca
          have fa2 : w2.drew.frozen? ⟨g, q, none⟩ = false := fa
          obtain ⟨nv, hnv⟩ : ∃ nv : Nat, nv = min (a * 10 + ((B[j]'hjb).toNat - 48)) 999999 := ⟨_, rfl⟩
          have HV : Hid (min (IntKind.i64.wrap (IntKind.i64.wrap ((a : Int) * 10) + IntKind.i64.wrap (IntKind.u8.wrap (((B[j]'hjb).toNat : Int) - 48)))) 999999 = (nv : Int)) := Lib.hid (by
            have h8 : IntKind.u8.wrap (((B[j]'hjb).toNat : Int) - 48) = ((B[j]'hjb).toNat : Int) - 48 := by simp only [IntKind.wrap, IntKind.bits, IntKind.signed]; simp; omega
            have hcb : 48 ≤ (B[j]'hjb).toNat := hd'.1
            generalize (B[j]'hjb).toNat = cc at hnv h8 hcb hc8
            have e0 : ((cc - 48 : Nat) : Int) = (cc : Int) - 48 := by omega
            rw [h8, Go.IntWalk.i64_in ((a : Int) * 10) (by omega), Go.IntWalk.i64_in ((cc : Int) - 48) (by omega), Go.IntWalk.i64_in ((a : Int) * 10 + ((cc : Int) - 48)) (by omega), hnv, ← e0]
            generalize cc - 48 = dd
            have e1 : ((min (a * 10 + dd) 999999 : Nat) : Int) = min ((a * 10 + dd : Nat) : Int) ((999999 : Nat) : Int) := by omega
            rw [e1]
            rfl)
          have HNV := Lib.hid hnv
          clear ca fa hnv
          refine wp_region_noPanic ?_
          refine wp_region_held_drew (S := fun w' => Below w.heap.size w w') (by kernel_rfl) HB2.out.drew (fun hHeld => ?_)
          refine takeH_at 0 31 (v := ?_) rfl rfl (by kernel_rfl) (by kernel_rfl) (by kernel_rfl) (fun _ _ _ h => h) (Or.inl ⟨by rfl, ?_⟩) (by assumption) ?_
          rotate_left
          · (intro wx hSw; clear hSw; go_simp) <;> with_reducible rfl
          simp only [Act.put, List.setIfInBounds_toArray, List.set_cons_zero, List.set_cons_succ]
          refine takeH_at 1 32 (v := ?_) rfl rfl (by kernel_rfl) (by kernel_rfl) (by kernel_rfl) (fun _ _ _ h => h) (Or.inl ⟨by rfl, ?_⟩) (by assumption) ?_
          rotate_left
          · (intro wx hSw; clear hSw; go_simp) <;> with_reducible rfl
          simp only [Act.put, List.setIfInBounds_toArray, List.set_cons_zero, List.set_cons_succ]
          refine takeH_at 2 33 (v := ?_) rfl rfl (by kernel_rfl) (by kernel_rfl) (by kernel_rfl) (fun _ _ _ h => h) (Or.inl ⟨by rfl, ?_⟩) (by assumption) ?_
          rotate_left
          · (intro wx hSw; clear hSw; go_simp) <;> with_reducible rfl
          simp only [Act.put, List.setIfInBounds_toArray, List.set_cons_zero, List.set_cons_succ]
          refine takeH_at 3 34 (v := ?_) rfl rfl (by kernel_rfl) (by kernel_rfl) (by kernel_rfl) (fun _ _ _ h => h) (Or.inl ⟨by rfl, ?_⟩) (by assumption) ?_
          rotate_left
          · (intro wx hSw; clear hSw; go_simp) <;> with_reducible rfl
          simp only [Act.put, List.setIfInBounds_toArray, List.set_cons_zero, List.set_cons_succ]
          refine takeH_at 4 35 (v := ?_) rfl rfl (by kernel_rfl) (by kernel_rfl) (by kernel_rfl) (fun _ _ _ h => h) (Or.inl ⟨by rfl, ?_⟩) (by assumption) ?_
          rotate_left
          · (intro wx hSw; clear hSw; go_simp) <;> with_reducible rfl
          simp only [Act.put, List.setIfInBounds_toArray, List.set_cons_zero, List.set_cons_succ]
          refine takeH_at 7 38 (v := ?_) rfl rfl (by kernel_rfl) (by kernel_rfl) (by kernel_rfl) (fun _ _ _ h => h) (Or.inl ⟨by rfl, ?_⟩) (by assumption) ?_
          rotate_left
          · (intro wx hSw; clear hSw; go_simp) <;> with_reducible rfl
          simp only [Act.put, List.setIfInBounds_toArray, List.set_cons_zero, List.set_cons_succ]
          refine takeH_at 8 39 (v := ?_) rfl rfl (by kernel_rfl) (by kernel_rfl) (by kernel_rfl) (fun _ _ _ h => h) (Or.inl ⟨by rfl, ?_⟩) (by assumption) ?_
          rotate_left
          · (intro wx hSw; clear hSw; go_simp) <;> with_reducible rfl
          simp only [Act.put, List.setIfInBounds_toArray, List.set_cons_zero, List.set_cons_succ]
          refine takeH_at 9 40 (v := ?_) rfl rfl (by kernel_rfl) (by kernel_rfl) (by kernel_rfl) (fun _ _ _ h => h) (Or.inl ⟨by rfl, ?_⟩) (by assumption) ?_
          rotate_left
          · (intro wx hSw; clear hSw; go_simp) <;> with_reducible rfl
          simp only [Act.put, List.setIfInBounds_toArray, List.set_cons_zero, List.set_cons_succ]
          refine takeH_at 10 41 (v := ?_) rfl rfl (by kernel_rfl) (by kernel_rfl) (by kernel_rfl) (fun _ _ _ h => h) (Or.inl ⟨by rfl, ?_⟩) (by assumption) ?_
          rotate_left
          · (intro wx hSw; clear hSw; go_simp) <;> with_reducible rfl
          simp only [Act.put, List.setIfInBounds_toArray, List.set_cons_zero, List.set_cons_succ]
          refine takeH_at 11 42 (v := ?_) rfl rfl (by kernel_rfl) (by kernel_rfl) (by kernel_rfl) (fun _ _ _ h => h) (Or.inl ⟨by rfl, ?_⟩) (by assumption) ?_
          rotate_left
          · (intro wx hSw; clear hSw; go_simp) <;> with_reducible rfl
          simp only [Act.put, List.setIfInBounds_toArray, List.set_cons_zero, List.set_cons_succ]
          refine single 5 36 rfl rfl (by kernel_rfl) (by rfl) (fun u w' => u = .int .i64 (a : Int) ∧ w' = w2.drew) (by
            have e := ca2
            unfold execOp
            simp only [Act.eval, Instr.loadAt, Instr.sureAddr]
            go_simp
            exact ⟨HB2.out.drew, Below.refl _ _, rfl, rfl⟩) ?_
          intro u wa hSa hba hu
          obtain ⟨rfl, rfl⟩ := hu
          simp only [Act.put, List.setIfInBounds_toArray, List.set_cons_zero, List.set_cons_succ]
          refine takeH_at 6 37 (v := ?_) rfl rfl (by kernel_rfl) (by kernel_rfl) (by kernel_rfl) (fun _ _ _ h => h) (Or.inl ⟨by rfl, ?_⟩) (by assumption) ?_
          rotate_left
          · (intro wx hSw; clear hSw; go_simp) <;> with_reducible rfl
          simp only [Act.put, List.setIfInBounds_toArray, List.set_cons_zero, List.set_cons_succ]
          refine takeH_at 12 43 (v := ?_) rfl rfl (by kernel_rfl) (by kernel_rfl) (by kernel_rfl) (fun _ _ _ h => h) (Or.inl ⟨by rfl, ?_⟩) (by assumption) ?_
          rotate_left
          · (intro wx hSw; clear hSw; go_simp) <;> with_reducible rfl
          simp only [Act.put, List.setIfInBounds_toArray, List.set_cons_zero, List.set_cons_succ]
          refine takeH_at 13 44 (v := ?_) rfl rfl (by kernel_rfl) (by kernel_rfl) (by kernel_rfl) (fun _ _ _ h => h) (Or.inl ⟨by rfl, ?_⟩) (by assumption) ?_
          rotate_left
          · (intro wx hSw; clear hSw; go_simp) <;> with_reducible rfl
          simp only [Act.put, List.setIfInBounds_toArray, List.set_cons_zero, List.set_cons_succ]
          refine takeH_at 14 45 (v := ?_) rfl rfl (by kernel_rfl) (by kernel_rfl) (by kernel_rfl) (fun _ _ _ h => h) (Or.inl ⟨by rfl, ?_⟩) (by assumption) ?_
          rotate_left
          · (intro wx hSw; clear hSw; go_simp) <;> with_reducible rfl
          simp only [Act.put, List.setIfInBounds_toArray, List.set_cons_zero, List.set_cons_succ]
          rw [HV.out]
          refine wpAnyH_ready (rs := [15]) (by kernel_rfl) (by simp) (AllReadyH.cons rfl (fun K hK => ?_) AllReadyH.nil)
          go_simp
          refine hK.out _ _ (HB2.out.drew.setCell (p := ⟨g, q, none⟩) (by simpa using hbg) _) (fun hSd => ?_)
          clear hK K
          refine wpAnyH_done (by kernel_rfl) ?_ _
          refine NoPanic.normal ?_
          have HREL : Hid (NuRel w s (.slice (some ⟨g, 0, none⟩) (q + 1) cap) (.bool true) (.int .i64 ((j : Int) + 1)) (w2.drew.setCell ⟨g, q, none⟩ (.int .i64 (nv : Int)))) := Lib.hid (by
            have e1 := HQ.out
            have hT2 := HT.out
            rw [step_off L0 _ hd, show (0 : Nat) * 10 = a * 10 by rw [HA0.out], ← HNV.out] at hT2
            have ho2 := own_setLast (b := nv) (w := w2.drew) HO2.out
            rw [← e1] at ho2
            refine ⟨j + 1, by omega, by go_num, by rw [hT2], fun _ => by rw [hT2]; simp, fun n hn => ?_, by rw [hT2]; simp; omega, ?_, HB2.out.drew.setCell (p := ⟨g, q, none⟩) (by simpa using hbg) _⟩
            · rw [hT2] at hn
              rcases List.mem_append.1 hn with hn | hn
              · exact HMX.out n (List.mem_append_left _ hn)
              · rw [List.mem_singleton] at hn
                rw [hn, HNV.out]
                exact Nat.min_le_right _ _
            · rw [hT2]
              have hl2 : (L0 ++ [nv]).length = q + 1 := by rw [e1]; simp
              rw [hl2] at ho2 ⊢
              exact ho2)
          have HREL2 : Hid (NuRel w s (.slice (some ⟨g, 0, none⟩) (q + 1) cap) (.bool true) (.int .i64 ((j : Int) + 1)) (w2.setCell ⟨g, q, none⟩ (.int .i64 (nv : Int))).drew) := Lib.hid HREL.out
          generalize (w2.setCell ⟨g, q, none⟩ (.int .i64 (nv : Int))).drew = wz at HREL2 ⊢
          clear hSd hHeld ca2 fa2
          go_wp2
          go_roundw
          case rel => exact HREL2.out
          case measure => simp [RowKit.intOf]; omega
        · obtain ⟨L, a, rfl⟩ : ∃ L a, L0 = L ++ [a] := by
            rcases List.eq_nil_or_concat L0 with e | ⟨L, a, e⟩
            · exact absurd e (hne rfl)
            · exact ⟨L, a, by rw [e, List.concat_eq_append]⟩
          obtain ⟨g, cap, rfl, _, hcap, hbg, hgw, hcells, hfz⟩ := own_some hown (by simp)
          have ha : a ≤ 999999 := hmx a (by simp)
          have ca := hcells L.length a (by simp)
          have fa := hfz L.length (by simp)
          have hll : (L ++ [a]).length = L.length + 1 := by simp
          rw [hll] at hln hcap
          rw [hll]
          obtain ⟨q, hq⟩ : ∃ q, q = L.length := ⟨_, rfl⟩
          rw [← hq] at ca fa hln hcap ⊢
          have HMX := Lib.hid hmx
          have HO2 : Hid (wr.drew.ownsRow w.heap.size 3 1 (.slice (some ⟨g, 0, none⟩) (L ++ [a]).length cap) (L ++ [a]).length (intsL (L ++ [a]))) := Lib.hid (hown.kept (grown_of_bel (Below.refl _ wr).drew none) (by simp [Value.ownBlock]))
          have HO := Lib.hid hown
          have HQ : Hid (q = L.length) := Lib.hid hq
          clear hown hcells hfz hmx hne hll hbj hq
          go_upto_region 12 with fail
          have hqq : (q : Int) < (q : Int) + 1 := by omega
          have ca2 : wr.drew.cell? ⟨g, q, none⟩ = some (.int .i64 (a : Int)) := ca
          have fa2 : wr.drew.frozen? ⟨g, q, none⟩ = false := fa
          obtain ⟨nv, hnv⟩ : ∃ nv : Nat, nv = min (a * 10 + ((B[j]'hjb).toNat - 48)) 999999 := ⟨_, rfl⟩
          have HV : Hid (min (IntKind.i64.wrap (IntKind.i64.wrap ((a : Int) * 10) + IntKind.i64.wrap (IntKind.u8.wrap (((B[j]'hjb).toNat : Int) - 48)))) 999999 = (nv : Int)) := Lib.hid (by
            have h8 : IntKind.u8.wrap (((B[j]'hjb).toNat : Int) - 48) = ((B[j]'hjb).toNat : Int) - 48 := by simp only [IntKind.wrap, IntKind.bits, IntKind.signed]; simp; omega
            have hcb : 48 ≤ (B[j]'hjb).toNat := hd'.1
            generalize (B[j]'hjb).toNat = cc at hnv h8 hcb hc8
            have e0 : ((cc - 48 : Nat) : Int) = (cc : Int) - 48 := by omega
            rw [h8, Go.IntWalk.i64_in ((a : Int) * 10) (by omega), Go.IntWalk.i64_in ((cc : Int) - 48) (by omega), Go.IntWalk.i64_in ((a : Int) * 10 + ((cc : Int) - 48)) (by omega), hnv, ← e0]
            generalize cc - 48 = dd
            have e1 : ((min (a * 10 + dd) 999999 : Nat) : Int) = min ((a * 10 + dd : Nat) : Int) ((999999 : Nat) : Int) := by omega
            rw [e1]
            rfl)
          have HNV := Lib.hid hnv
          clear ca fa hnv
          refine wp_region_noPanic ?_
          refine wp_region_held_drew (S := fun w' => Below w.heap.size w w') (by kernel_rfl) HB.out.drew (fun hHeld => ?_)
          refine takeH_at 0 31 (v := ?_) rfl rfl (by kernel_rfl) (by kernel_rfl) (by kernel_rfl) (fun _ _ _ h => h) (Or.inl ⟨by rfl, ?_⟩) (by assumption) ?_
          rotate_left
          · (intro wx hSw; clear hSw; go_simp) <;> with_reducible rfl
          simp only [Act.put, List.setIfInBounds_toArray, List.set_cons_zero, List.set_cons_succ]
          refine takeH_at 1 32 (v := ?_) rfl rfl (by kernel_rfl) (by kernel_rfl) (by kernel_rfl) (fun _ _ _ h => h) (Or.inl ⟨by rfl, ?_⟩) (by assumption) ?_
          rotate_left
          · (intro wx hSw; clear hSw; go_simp) <;> with_reducible rfl
          simp only [Act.put, List.setIfInBounds_toArray, List.set_cons_zero, List.set_cons_succ]
          refine takeH_at 2 33 (v := ?_) rfl rfl (by kernel_rfl) (by kernel_rfl) (by kernel_rfl) (fun _ _ _ h => h) (Or.inl ⟨by rfl, ?_⟩) (by assumption) ?_
          rotate_left
          · (intro wx hSw; clear hSw; go_simp) <;> with_reducible rfl
          simp only [Act.put, List.setIfInBounds_toArray, List.set_cons_zero, List.set_cons_succ]
          refine takeH_at 3 34 (v := ?_) rfl rfl (by kernel_rfl) (by kernel_rfl) (by kernel_rfl) (fun _ _ _ h => h) (Or.inl ⟨by rfl, ?_⟩) (by assumption) ?_
          rotate_left
          · (intro wx hSw; clear hSw; go_simp) <;> with_reducible rfl
          simp only [Act.put, List.setIfInBounds_toArray, List.set_cons_zero, List.set_cons_succ]
          refine takeH_at 4 35 (v := ?_) rfl rfl (by kernel_rfl) (by kernel_rfl) (by kernel_rfl) (fun _ _ _ h => h) (Or.inl ⟨by rfl, ?_⟩) (by assumption) ?_
          rotate_left
          · (intro wx hSw; clear hSw; go_simp) <;> with_reducible rfl
          simp only [Act.put, List.setIfInBounds_toArray, List.set_cons_zero, List.set_cons_succ]
          refine takeH_at 7 38 (v := ?_) rfl rfl (by kernel_rfl) (by kernel_rfl) (by kernel_rfl) (fun _ _ _ h => h) (Or.inl ⟨by rfl, ?_⟩) (by assumption) ?_
          rotate_left
          · (intro wx hSw; clear hSw; go_simp) <;> with_reducible rfl
          simp only [Act.put, List.setIfInBounds_toArray, List.set_cons_zero, List.set_cons_succ]
          refine takeH_at 8 39 (v := ?_) rfl rfl (by kernel_rfl) (by kernel_rfl) (by kernel_rfl) (fun _ _ _ h => h) (Or.inl ⟨by rfl, ?_⟩) (by assumption) ?_
          rotate_left
          · (intro wx hSw; clear hSw; go_simp) <;> with_reducible rfl
          simp only [Act.put, List.setIfInBounds_toArray, List.set_cons_zero, List.set_cons_succ]
          refine takeH_at 9 40 (v := ?_) rfl rfl (by kernel_rfl) (by kernel_rfl) (by kernel_rfl) (fun _ _ _ h => h) (Or.inl ⟨by rfl, ?_⟩) (by assumption) ?_
          rotate_left
          · (intro wx hSw; clear hSw; go_simp) <;> with_reducible rfl
          simp only [Act.put, List.setIfInBounds_toArray, List.set_cons_zero, List.set_cons_succ]
          refine takeH_at 10 41 (v := ?_) rfl rfl (by kernel_rfl) (by kernel_rfl) (by kernel_rfl) (fun _ _ _ h => h) (Or.inl ⟨by rfl, ?_⟩) (by assumption) ?_
          rotate_left
          · (intro wx hSw; clear hSw; go_simp) <;> with_reducible rfl
          simp only [Act.put, List.setIfInBounds_toArray, List.set_cons_zero, List.set_cons_succ]
          refine takeH_at 11 42 (v := ?_) rfl rfl (by kernel_rfl) (by kernel_rfl) (by kernel_rfl) (fun _ _ _ h => h) (Or.inl ⟨by rfl, ?_⟩) (by assumption) ?_
          rotate_left
          · (intro wx hSw; clear hSw; go_simp) <;> with_reducible rfl
          simp only [Act.put, List.setIfInBounds_toArray, List.set_cons_zero, List.set_cons_succ]
          refine single 5 36 rfl rfl (by kernel_rfl) (by rfl) (fun u w' => u = .int .i64 (a : Int) ∧ w' = wr.drew) (by
            have e := ca2
            unfold execOp
            simp only [Act.eval, Instr.loadAt, Instr.sureAddr]
            go_simp
            exact ⟨HB.out.drew, Below.refl _ _, rfl, rfl⟩) ?_
          intro u wa hSa hba hu
          obtain ⟨rfl, rfl⟩ := hu
          simp only [Act.put, List.setIfInBounds_toArray, List.set_cons_zero, List.set_cons_succ]
          refine takeH_at 6 37 (v := ?_) rfl rfl (by kernel_rfl) (by kernel_rfl) (by kernel_rfl) (fun _ _ _ h => h) (Or.inl ⟨by rfl, ?_⟩) (by assumption) ?_
          rotate_left
          · (intro wx hSw; clear hSw; go_simp) <;> with_reducible rfl
          simp only [Act.put, List.setIfInBounds_toArray, List.set_cons_zero, List.set_cons_succ]
          refine takeH_at 12 43 (v := ?_) rfl rfl (by kernel_rfl) (by kernel_rfl) (by kernel_rfl) (fun _ _ _ h => h) (Or.inl ⟨by rfl, ?_⟩) (by assumption) ?_
          rotate_left
          · (intro wx hSw; clear hSw; go_simp) <;> with_reducible rfl
          simp only [Act.put, List.setIfInBounds_toArray, List.set_cons_zero, List.set_cons_succ]
          refine takeH_at 13 44 (v := ?_) rfl rfl (by kernel_rfl) (by kernel_rfl) (by kernel_rfl) (fun _ _ _ h => h) (Or.inl ⟨by rfl, ?_⟩) (by assumption) ?_
          rotate_left
          · (intro wx hSw; clear hSw; go_simp) <;> with_reducible rfl
          simp only [Act.put, List.setIfInBounds_toArray, List.set_cons_zero, List.set_cons_succ]
          refine takeH_at 14 45 (v := ?_) rfl rfl (by kernel_rfl) (by kernel_rfl) (by kernel_rfl) (fun _ _ _ h => h) (Or.inl ⟨by rfl, ?_⟩) (by assumption) ?_
          rotate_left
          · (intro wx hSw; clear hSw; go_simp) <;> with_reducible rfl
          simp only [Act.put, List.setIfInBounds_toArray, List.set_cons_zero, List.set_cons_succ]
          rw [HV.out]
          refine wpAnyH_ready (rs := [15]) (by kernel_rfl) (by simp) (AllReadyH.cons rfl (fun K hK => ?_) AllReadyH.nil)
          go_simp
          refine hK.out _ _ (HB.out.drew.setCell (p := ⟨g, q, none⟩) (by simpa using hbg) _) (fun hSd => ?_)
          clear hK K
          refine wpAnyH_done (by kernel_rfl) ?_ _
          refine NoPanic.normal ?_
          have HREL : Hid (NuRel w s (.slice (some ⟨g, 0, none⟩) (q + 1) cap) (.bool true) (.int .i64 ((j : Int) + 1)) (wr.drew.setCell ⟨g, q, none⟩ (.int .i64 (nv : Int)))) := Lib.hid (by
            have e1 := HQ.out
            have hT2 := HT.out
            rw [step_on L a _ hd, ← HNV.out] at hT2
            have ho2 := own_setLast (b := nv) (w := wr.drew) HO2.out
            rw [← e1] at ho2
            refine ⟨j + 1, by omega, by go_num, by rw [hT2], fun _ => by rw [hT2]; simp, fun n hn => ?_, by rw [hT2]; simp; omega, ?_, HB.out.drew.setCell (p := ⟨g, q, none⟩) (by simpa using hbg) _⟩
            · rw [hT2] at hn
              rcases List.mem_append.1 hn with hn | hn
              · exact HMX.out n (List.mem_append_left _ hn)
              · rw [List.mem_singleton] at hn
                rw [hn, HNV.out]
                exact Nat.min_le_right _ _
            · rw [hT2]
              have hl2 : (L ++ [nv]).length = q + 1 := by rw [e1]; simp
              rw [hl2] at ho2 ⊢
              exact ho2)
          have HREL2 : Hid (NuRel w s (.slice (some ⟨g, 0, none⟩) (q + 1) cap) (.bool true) (.int .i64 ((j : Int) + 1)) (wr.setCell ⟨g, q, none⟩ (.int .i64 (nv : Int))).drew) := Lib.hid HREL.out
          generalize (wr.setCell ⟨g, q, none⟩ (.int .i64 (nv : Int))).drew = wz at HREL2 ⊢
          clear hSd hHeld ca2 fa2
          go_wp2
          go_roundw
          case rel => exact HREL2.out
          case measure => simp [RowKit.intOf]; omega
      · have hnd : isDig (B[j]'hjb) = false := by simpa using hd
        have HREL : Hid (NuRel w s u3 (.bool false) (.int .i64 ((j : Int) + 1)) wr) := Lib.hid (by
          have hT2 := HT.out
          rw [step_no _ _ hnd] at hT2
          refine ⟨j + 1, by omega, by go_num, by rw [hT2], fun h => (by rw [hT2] at h; cases h), fun n hn => hmx n (by rw [hT2] at hn; exact hn), by rw [hT2]; simp only; omega, by rw [hT2]; exact hown, HB.out⟩)
        have hcase : ((B[j]'hjb).toNat : Int) < 48 ∨ (¬ ((B[j]'hjb).toNat : Int) < 48 ∧ (57 : Int) < ((B[j]'hjb).toNat : Int)) := by
          unfold isDig at hnd
          have := of_decide_eq_false hnd
          omega
        clear hne hmx hln hown hb hnd hd hbj HT HST
        rcases hcase with d1 | ⟨d1, d2⟩
        all_goals
          go_wp2
          go_roundw
          case rel => exact HREL.out
          case measure => simp [RowKit.intOf]; omega
    · have hjs : j = s.length := by omega
      have HF : Hid (wr.ownsRow w.heap.size 3 1 u3 (numsL s).1.length (intsL (numsL s).1)) := Lib.hid (by
        have e := HE.out
        rw [hjs, List.take_length] at e
        rw [e]
        exact hown)
      clear hne hmx hln hown hb hjs HST
      go_wp2
      go_ret
      exact ⟨_, rfl, HF.out, HB.out⟩
end Go.Proofs.YtieeffebecghiaaDoor
