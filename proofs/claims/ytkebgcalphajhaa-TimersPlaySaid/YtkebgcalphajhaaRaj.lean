/- Clone of the package ring. Conditions: the queue is made. -/
import Derived.Test.YtkebgcalphajhaaRai
namespace Go.Proofs.Ytkebgcalphajhaa
open Go.RowKit Go.Lib Go.Shelf
set_option maxRecDepth 100000
set_option maxHeartbeats 400000
theorem load54 {w : World} {a : Addr} {v : Value} (h : w.cell? a = some v) : (loadVar 54 a).run Try.prog w = .ok v w := by simp [loadVar, h]
/-- Behind pre: the queue in block g has what came, its pointer lies in block b. -/
def ClnI (w : World) (g b most N0 : Nat) (Z : Nat → Prop) (pre : List (Int × Int)) (W : World) : Prop := Below w.heap.size w W ∧ N0 ≤ W.heap.size ∧ Boxed W b 54 (.pointer (some ⟨g, 0, none⟩)) ∧ ∃ v, Ring W g most v (pre.map Prod.snd) ∧ (∀ k, v.ownBlock = some k → w.heap.size ≤ k ∧ ¬ Z k)
theorem idxL_snd (L : List Int) : (idxL L).map Prod.snd = L := by
  unfold idxL
  rw [List.map_map]
  apply List.ext_getElem
  · simp
  · intro i h1 h2
    simp [h2]
theorem Obj.heapOf {T e k : Nat} {W W' : World} {g most n : Nat} {v : Value} {xs : List Value} {row : Option Nat} (h : Obj T e k W g most v n xs) (hg : W.grownBy W' row) (hrow : ∀ r, row = some r → ∃ o : Go.Obj, W.heap[r]? = some o ∧ o.isCells = false) : Obj T e k W' g most v n xs := by
  have hk : ∀ j, (∃ o : Go.Obj, W.heap[j]? = some o ∧ o.isCells = true) → W'.heap[j]? = W.heap[j]? := fun j hj => by
    obtain ⟨o, ho, hc⟩ := hj
    refine hg.block j (Array.getElem?_eq_some_iff.1 ho).1 (fun e => ?_)
    obtain ⟨o2, ho2, hc2⟩ := hrow j e.symm
    rw [ho] at ho2
    cases ho2
    rw [hc] at hc2
    cases hc2
  refine h.same (hk g ⟨_, h.blk, rfl⟩) (fun b hb => ?_)
  rcases h.row.2 with ⟨rfl, _⟩ | ⟨g', off, cap, cur, rfl, hg', _⟩
  · cases hb
  · have hb : some g' = some b := hb
    injection hb with hb
    subst hb
    exact hk g' ⟨_, hg', rfl⟩
theorem clnI_own (w : World) (g b most N0 B : Nat) (Z : Nat → Prop) (hB : w.heap.size ≤ B) : OwnFrom B (ClnI w g b most N0 Z) := fun s X Y row h hg hr =>
  ⟨ownFrom_below (β := Unit) (Nat.le_refl _) hB () X Y row h.1 hg hr, Nat.le_trans h.2.1 hg.size, (grownBy_keeps_cells hg (fun r e => (hr r e).2) h.2.2.1 rfl).trans h.2.2.1, by
    obtain ⟨v, h1, h2⟩ := h.2.2.2
    exact ⟨v, Obj.heapOf h1 hg (fun r e => (hr r e).2), h2⟩⟩
theorem Mov.keeps {T e k : Nat} {W W' : World} {g most n : Nat} {v v' : Value} {xs : List Value} (h : Mov W W' g v v') (hr : Obj T e k W g most v n xs) : KeepsOthers W W' := ⟨h.size, fun j o hj ho => by
  refine (h.block j (Array.getElem?_eq_some_iff.1 hj).1 (fun e => ?_) (fun e => ?_)).trans hj
  · subst e
    rw [hr.blk] at hj
    cases hj
    cases ho
  · rcases hr.row.2 with ⟨rfl, _⟩ | ⟨g', off, cap, cur, rfl, hg', _⟩
    · cases e
    · have e : some j = some g' := e
      injection e with e
      subst e
      rw [hg'] at hj
      cases hj
      cases ho⟩
def ClnIs (w : World) (most : Nat) (L : List Int) (e : Ending) (w' : World) : Prop := ∃ g' v', e = .returned (.pointer (some ⟨g', 0, none⟩)) ∧ Ring w' g' most v' L ∧ Below w.heap.size w w' ∧ w.heap.size ≤ g' ∧ ∀ b, v'.ownBlock = some b → w.heap.size ≤ b
theorem rclone_any (g most : Nat) (h0 : 0 < most) (hm : most ≤ 65536) (v : Value) (L : List Int) (w : World) (h : Ring w g most v L) (hl : L.length ≤ most) : Calls Try.prog 23 #[.pointer (some ⟨g, 0, none⟩)] w (ClnIs w most L) := by
  have HM := Lib.hid (rmade_yes g most h0 w (Obj.c0 h))
  have HN := Lib.hid (rnew_yes most h0 hm w)
  have q0 := Obj.c0 h
  obtain ⟨w1, hw1⟩ : ∃ w1, w1 = w.alloc (.cells #[.int .i64 (most : Int), .slice none 0 0] 93) := ⟨_, rfl⟩
  have hb1 : Below w.heap.size w w1 := by rw [hw1]; exact (Below.refl _ w).alloc (Nat.le_refl _) _
  have hr1 : Ring w1 w.heap.size most (.slice none 0 0) [] := by rw [hw1]; exact ring_new most w
  have hs1 : w1.heap.size = w.heap.size + 1 := by rw [hw1]; simp
  obtain ⟨w2, hw2⟩ : ∃ w2, w2 = w1.alloc (.cells #[.pointer (some ⟨w.heap.size, 0, none⟩)] 54) := ⟨_, rfl⟩
  have hb2 : Below w1.heap.size w1 w2 := by rw [hw2]; exact (Below.refl _ w1).alloc (Nat.le_refl _) _
  have hx2 : Boxed w2 w1.heap.size 54 (.pointer (some ⟨w.heap.size, 0, none⟩)) := by rw [hw2]; exact Boxed.new w1 54 _
  have hs2 : w2.heap.size = w1.heap.size + 1 := by rw [hw2]; simp
  have hr2 := Obj.bel hr1 hb2
  have hb12 := hb1.trans (hb2.mono hb1.size)
  have HA := Lib.hid (all_any g most h0 v L w2 (Obj.bel h (hb12.mono (Nat.le_refl _))) (by omega))
  have HW1 := Lib.hid hw1
  have HW2 := Lib.hid hw2
  clear hw1 hw2 hb1 hr1 hb2 h
  refine (callsIn_wide (n := 20)).1 ?_
  refine callsIn_of_wp_marks Try.func23 rfl trivial ?_ rfl
  simp only [Try.ntmps23, List.size_toArray, List.length_cons, List.length_nil, Nat.reduceAdd, Nat.reduceSub, Array.replicate_succ, Array.replicate_zero, List.push_toArray, List.append_toArray, List.nil_append, List.cons_append]
  gi_wp2_with (first
    | (refine ⟨trivial, ?_⟩; gi_at_call 48; (with_reducible refine (callsIn_wide.2 HM.out).mono ?_); rintro e w3 ⟨rfl, rfl⟩)
    | (refine ⟨trivial, ?_⟩; gi_at_call 22; (with_reducible refine (callsIn_wide.2 HN.out).mono ?_); rintro e w3 ⟨rfl, rfl⟩; rw [← HW1.out])
    | (refine ⟨trivial, ?_⟩; gi_at_call 49; rw [← HW2.out]; (with_reducible refine (callsIn_wide.2 HA.out).mono ?_); rintro e w4 ⟨B, v4, rfl, hB4, hX4, hr4, hb4, hf4⟩))
  obtain ⟨A4, c4, rfl, hn4⟩ := hr4.form
  have hlt4 := hr4.lt
  have hB4l := hX4.lt
  have hs4 := hb4.size
  have hb34 : Below w3.heap.size w3 w4 := hb12.trans (hb4.mono hb12.size)
  have hI0 : ClnI w3 w3.heap.size (w3.heap.size + 1) most w4.heap.size (fun k => k = w3.heap.size + 1 ∨ k = B ∨ (Value.slice A4 L.length c4).ownBlock = some k) [] w4 := ⟨hb34, Nat.le_refl _, (hb4.block _ (by omega)).trans (by rw [hs1] at hx2; exact hx2), _, Obj.bel hr2 hb4, fun k hk => by cases hk⟩
  have HI0 := Lib.hid hI0
  have HSEQ := Lib.hid (all_stops (20 - 1) (by omega) A4 c4 L B (fun k => k = B ∨ (Value.slice A4 L.length c4).ownBlock = some k) w4 (by omega) (.inl rfl) hX4.cell ((hr4.ints rfl).mono (fun b _ hb => .inr hb)))
  have HZ : Hid (∀ k, k = w3.heap.size + 1 ∨ k = B ∨ (Value.slice A4 L.length c4).ownBlock = some k → k < w4.heap.size) := Lib.hid (fun k hk => by
    rcases hk with rfl | rfl | hk
    · omega
    · exact hB4l
    · exact hlt4 k hk)
  have HBG : Hid (w3.heap.size < B) := Lib.hid (by omega)
  have HF4 : Hid (∀ k, (Value.slice A4 L.length c4).ownBlock = some k → k ≠ w3.heap.size) := Lib.hid (fun k hk => by have := hf4 k hk; omega)
  have HLM := Lib.hid hl
  have HSZ : Hid (w3.heap.size ≤ w4.heap.size) := Lib.hid hb34.size
  clear hI0 hX4 hr4 hlt4 hf4 hb4 hB4 hb12 hx2 hr2 hs1 hs2 hb34 hs4 hn4 hB4l q0 HM HN HA HW1 HW2
  refine wpIn_each (encs := encP) (S₀ := fun k => k = B ∨ (Value.slice A4 L.length c4).ownBlock = some k) rfl (by omega) (gf := 68) (lb := #[.pointer (some ⟨B, 0, none⟩)]) rfl trivial (enters_of Try.func68 (by kernel_rfl) rfl) (fun k hk => HZ.out k (.inr hk))
    HSEQ.out (Below.refl _ _) (fun _ => rfl)
    (fun p => #[.pointer (some ⟨g, 0, none⟩), undef, .pointer none, .pointer (some ⟨w3.heap.size + 1, 0, none⟩), undef, undef, .pointer (some ⟨g, 0, none⟩), .bool true, .bool false, .pointer (some ⟨g, 0, none⟩), .pointer (some ⟨g, 0, none⟩), .pointer (some ⟨g, 0, none⟩), .int .i64 (most : Int), .pointer (some ⟨w3.heap.size, 0, none⟩), .pointer (some ⟨g, 0, none⟩), .func (.func 68) #[] #[.pointer (some ⟨B, 0, none⟩)], .int .i64 p.1, .int .i64 p.2, undef, undef, undef, undef]) (fun x => by simp [encP])
    (ClnI w3 w3.heap.size (w3.heap.size + 1) most w4.heap.size (fun k => k = w3.heap.size + 1 ∨ k = B ∨ (Value.slice A4 L.length c4).ownBlock = some k))
    (fun pre p a W => ClnI w3 w3.heap.size (w3.heap.size + 1) most w4.heap.size (fun k => k = w3.heap.size + 1 ∨ k = B ∨ (Value.slice A4 L.length c4).ownBlock = some k) pre W ∧ a = { tmps := #[.pointer (some ⟨g, 0, none⟩), undef, .pointer none, .pointer (some ⟨w3.heap.size + 1, 0, none⟩), undef, .int .i64 p.2, .pointer (some ⟨g, 0, none⟩), .bool true, .bool false, .pointer (some ⟨g, 0, none⟩), .pointer (some ⟨g, 0, none⟩), .pointer (some ⟨g, 0, none⟩), .int .i64 (most : Int), .pointer (some ⟨w3.heap.size, 0, none⟩), .pointer (some ⟨g, 0, none⟩), .func (.func 68) #[] #[.pointer (some ⟨B, 0, none⟩)], .int .i64 p.1, .int .i64 p.2, undef, undef, undef, undef], defers := [] })
    (clnI_own _ _ _ _ _ _ _ HSZ.out)
    (fun q A B' row h hg hr => ⟨clnI_own _ _ _ _ _ _ _ HSZ.out _ _ _ _ h.1 hg hr, h.2⟩)
    HI0.out ?assign ?body ?done
  case assign =>
    intro l pre x W K hI hK
    have hsem := Oper.semAt_some l
    have HI := Lib.hid hI
    have HKK := Lib.hid hK
    clear hI hK
    gi_wp2
    exact HKK.out _ _ ⟨HI.out, rfl⟩ (KeepsOthers.refl W) (KpS.refl _ W)
  case body =>
    rintro l pre x a1 W hlt ⟨⟨hb, hN, hx, v, hr, hv⟩, rfl⟩
    have hsem := Oper.semAt_some l
    have HPU := Lib.hid (push_more w3.heap.size most h0 hm v (pre.map Prod.snd) x.2 W (by rw [List.length_map]; have := HLM.out; have := hlt.length_le; rw [idxL_length, List.length_append, List.length_singleton] at this; omega) hr)
    have HX := Lib.hid (load54 hx.cell)
    have HXX := Lib.hid hx
    have HR := Lib.hid hr
    have HB := Lib.hid hb
    have HNN := Lib.hid hN
    have HV := Lib.hid hv
    clear hb hN hx hr hv hlt
    gi_wp2_with (first
      | ((with_reducible refine wpListIn_loadV (o := ⟨some 18, _, _, _, _, _⟩) rfl 54 (.tmp 3) rfl _ ?_ _ HX.out ?_); rfl)
      | (refine ⟨trivial, ?_⟩; gi_at_call 25; (with_reducible refine (CallsIn.inRound l (callsIn_wide.2 HPU.out)).mono ?_); rintro e w5 ⟨v5, rfl, hr5, hm5⟩))
    have hm5 := hm5
    have hN := HNN.out
    have hwl := HXX.out.lt
    refine ⟨Mov.keeps hm5 HR.out, ⟨hm5.size, fun k hk => ?_⟩, HB.out.trans (hm5.below HB.out.size (Nat.le_refl _) (fun b hb => (HV.out b hb).1)), Nat.le_trans hN hm5.size, ?_, v5, ?_, fun k hk => ?_⟩
    · have hz := HZ.out k (.inr hk)
      refine hm5.block k (by omega) (fun e => ?_) (fun e => (HV.out k e.symm).2 (.inr hk))
      rcases hk with rfl | hk
      · have := HBG.out
        omega
      · exact HF4.out k hk e
    · exact (hm5.block _ hwl (by omega) (fun e => (HV.out _ e.symm).2 (.inl rfl))).trans HXX.out
    · rw [List.map_append]
      exact hr5
    · rcases hm5.fresh k hk with h1 | h1
      · exact HV.out k h1
      · have hs := HSZ.out
        exact ⟨by omega, fun hz => by have := HZ.out k hz; omega⟩
  case done =>
    rintro D W hD ⟨hb, hN, hx, v, hr, hv⟩ hK
    rw [idxL_snd] at hr
    have HX := Lib.hid (load54 hx.cell)
    have HR := Lib.hid hr
    have HB := Lib.hid hb
    have HV := Lib.hid hv
    have HK := Lib.hid hK
    have HD := Lib.hid hD
    clear hb hN hx hr hv hK hD
    gi_wp2_with (first
      | ((with_reducible refine wpListIn_loadV (o := ⟨some 21, _, _, _, _, _⟩) rfl 54 (.tmp 3) rfl _ ?_ _ HX.out ?_); rfl))
    refine ⟨by simp, .inl ⟨_, _, rfl, run_takeDeferred HK.out, ?_⟩⟩
    have hd := HD.out
    have hs := HSZ.out
    exact ⟨_, results_tmp rfl _ _ _, w3.heap.size, v, rfl, Obj.heapOf HR.out (grownBy_putObj' W D _) (fun r e => by cases e; exact ⟨_, HK.out, rfl⟩), HB.out.trans (belowK_b (w := w3) (Nat.le_refl _) W D _ _ (by omega) HK.out rfl rfl), Nat.le_refl _, fun k hk => (HV.out k hk).1⟩
end Go.Proofs.Ytkebgcalphajhaa
