/- Contract of lives of the statements on metric. No condition. -/
import Derived.Test.YtcoiaddjfeaciaaMli
namespace Go.Proofs.Ytcoiaddjfeaciaa
set_option maxRecDepth 100000
set_option maxHeartbeats 4000000
open Go.RowKit Go.Lib Go.Great

theorem wpList_bsliceV {P : Program} {ops : Array Oper} {rest : List Oper} {o : Oper} {a : Act} {w : World} {Q : Exit → Act → World → Prop} (hg : o.guard = none) (t : TypeId) (n : Nat) (parts : Array (Nat × Operand)) (ho : o.op = .buildSlice t n parts) (vs : Array (Nat × Value))
    (hv : (parts.map fun (i, x) => (i, a.eval x)) = vs) (v : Value) (w' : World) (hr : (Instr.buildSlice t n vs).run P w = .ok v w') (h : wpList P ops Q rest (a.put o.dst v) w') : wpList P ops Q (o :: rest) a w :=
  wpList_plain hg fun _ hK => by
    unfold Oper.wp execOp
    simp only [ho, hv, Sem.run_bind, hr, Result.andThen_ok, Sem.run_pure]
    exact hK _ _ h
theorem iat_new (W : World) (L : List IDv) : IAt (W.alloc (.cells (flatI L).toArray 26)) (W.alloc (.cells (flatI L).toArray 26)).heap.size (some ⟨W.heap.size, 0, none⟩) L :=
  .inr ⟨W.heap.size, 0, rfl, by simp, row_range (heap_alloc_new W _)⟩

theorem mlives_any (w : World) : Calls Try.prog 43 #[] w fun e w' => e = .returned (.bool true) ∧ Below w.heap.size w w' := by
  have i0 := Lib.hid (fun W => lid_any 0 (smallI 0) small0 W)
  have i1 := Lib.hid (fun W => lid_any 1 (smallI 1) small1 W)
  have i2 := Lib.hid (fun W => lid_any 2 (smallI 2) small2 W)
  have i3 := Lib.hid (fun W => lid_any 3 (smallI 3) small3 W)
  have b4 := Lib.hid build4
  have b3 := Lib.hid build3
  have n4 := Lib.hid (fun W => iat_new W [smallI 3, smallI 1, smallI 2, smallI 1])
  have n3 := Lib.hid (fun W => iat_new W [smallI 0, smallI 1, smallI 2])
  have m0 : Hid (∀ A c W, IAt W W.heap.size A [smallI 3, smallI 1, smallI 2, smallI 1] → Calls Try.prog 47 #[.agg (encID (smallI 0)).toArray, .slice A 4 c] W fun e w' => ∃ A' c', e = .returned (.slice A' 3 c') ∧ 3 ≤ c' ∧ IAt w' w'.heap.size A' [smallI 1, smallI 2, smallI 3] ∧ Below W.heap.size W w') := Lib.hid (fun A c W h => (msort_any (smallI 0) A c _ W (by decide) h).mono (by
    rintro e w' ⟨A', c', out, rfl, k1, _, k3, k4, k5⟩
    have := k1.unique set_a
    subst this
    exact ⟨A', c', rfl, k3, k4, k5⟩))
  have m3 : Hid (∀ A c W, IAt W W.heap.size A [smallI 0, smallI 1, smallI 2] → Calls Try.prog 47 #[.agg (encID (smallI 3)).toArray, .slice A 3 c] W fun e w' => ∃ A' c', e = .returned (.slice A' 3 c') ∧ 3 ≤ c' ∧ IAt w' w'.heap.size A' [smallI 2, smallI 1, smallI 0] ∧ Below W.heap.size W w') := Lib.hid (fun A c W h => (msort_any (smallI 3) A c _ W (by decide) h).mono (by
    rintro e w' ⟨A', c', out, rfl, k1, _, k3, k4, k5⟩
    have := k1.unique set_b
    subst this
    exact ⟨A', c', rfl, k3, k4, k5⟩))
  have hE : ∀ x : IDv, ∀ W, (Op.equalIn 10000 26 (.agg (encID x).toArray) (.agg (encID x).toArray)).run Try.prog W = .ok true W := fun x W => by
    have := eq61 x.val x.val x.property x.property W
    rw [beq_self_eq_true] at this
    exact this
  have e0 := hE (smallI 0)
  have e1 := hE (smallI 1)
  have e2 := hE (smallI 2)
  have e3 := hE (smallI 3)
  have q0 : Hid (∀ (W : World) (g off : Nat), W.rangeAt g off (flatI [smallI 1, smallI 2, smallI 3]) → W.rangeAt g off (encID (smallI 1)) ∧ W.rangeAt g (off + 40) (encID (smallI 3))) := Lib.hid (fun W g off h => ⟨range_part (i := 0) h rfl, range_part (i := 2) h rfl⟩)
  have q3 : Hid (∀ (W : World) (g off : Nat), W.rangeAt g off (flatI [smallI 2, smallI 1, smallI 0]) → W.rangeAt g off (encID (smallI 2)) ∧ W.rangeAt g (off + 40) (encID (smallI 0))) := Lib.hid (fun W g off h => ⟨range_part (i := 0) h rfl, range_part (i := 2) h rfl⟩)
  have kr : Hid (∀ (g off : Nat) (W : World) (x : IDv), g < W.heap.size → W.rangeAt g off (encID x) → ∀ n : Kept W.heap.size W, (loadVar 26 ⟨g, off, none⟩).run Try.prog n.val = .ok (.agg (encID x).toArray) n.val) := Lib.hid (fun g off W x h1 h2 => kept_range26 h1 h2)
  clear hE
  generalize (flatI [smallI 3, smallI 1, smallI 2, smallI 1]).toArray = F4 at b4 n4
  generalize (flatI [smallI 0, smallI 1, smallI 2]).toArray = F3 at b3 n3
  generalize hL4 : [smallI 3, smallI 1, smallI 2, smallI 1] = L4 at n4 m0
  generalize hL3 : [smallI 0, smallI 1, smallI 2] = L3 at n3 m3
  generalize hO4 : [smallI 1, smallI 2, smallI 3] = O4 at m0 q0
  generalize hO3 : [smallI 2, smallI 1, smallI 0] = O3 at m3 q3
  have HO4 : Hid (0 < O4.length) := Lib.hid (by rw [← hO4]; decide)
  have HO3 : Hid (0 < O3.length) := Lib.hid (by rw [← hO3]; decide)
  generalize hI0 : smallI 0 = I0 at *
  generalize hI1 : smallI 1 = I1 at *
  generalize hI2 : smallI 2 = I2 at *
  generalize hI3 : smallI 3 = I3 at *
  have HB : Below w.heap.size w w := Below.refl _ _
  clear hL4 hL3 hO4 hO3 hI0 hI1 hI2 hI3
  go_enter Try.func43, Try.ntmps43
  go_upto_region 3 with (first
    | (go_at_call 72; (with_reducible refine (i0.out _).mono ?_); rintro e wn ⟨rfl, hbn⟩; (try replace HC := HC.trans (hbn.mono HC.size)); replace HB := HB.trans (hbn.mono HB.size); clear hbn)
    | (go_at_call 72; (with_reducible refine (i1.out _).mono ?_); rintro e wn ⟨rfl, hbn⟩; (try replace HC := HC.trans (hbn.mono HC.size)); replace HB := HB.trans (hbn.mono HB.size); clear hbn)
    | (go_at_call 72; (with_reducible refine (i2.out _).mono ?_); rintro e wn ⟨rfl, hbn⟩; (try replace HC := HC.trans (hbn.mono HC.size)); replace HB := HB.trans (hbn.mono HB.size); clear hbn)
    | (go_at_call 72; (with_reducible refine (i3.out _).mono ?_); rintro e wn ⟨rfl, hbn⟩; (try replace HC := HC.trans (hbn.mono HC.size)); replace HB := HB.trans (hbn.mono HB.size); clear hbn)
    | ((with_reducible refine wpList_bsliceV (o := ⟨some 14, _, _, _, _, _⟩) rfl 62 4 _ rfl _ ?_ _ _ (b4.out _) ?_); (simp only [List.map_toArray, List.map_cons, List.map_nil]; rfl); replace HB := HB.alloc HB.size (.cells F4 26))
    | ((with_reducible refine wpList_bsliceV (o := ⟨some 24, _, _, _, _, _⟩) rfl 62 3 _ rfl _ ?_ _ _ (b3.out _) ?_); (simp only [List.map_toArray, List.map_cons, List.map_nil]; rfl); replace HC := HC.alloc HC.size (.cells F3 26); replace HB := HB.alloc HB.size (.cells F3 26))
    | (go_at_call 47; (with_reducible refine (m0.out _ _ _ (n4.out _)).mono ?_); rintro e wn ⟨A1, c1, rfl, hc1, hA1, hbn⟩; have HC := Below.refl wn.heap.size wn; replace HB := HB.trans (hbn.mono HB.size); clear hbn)
    | (go_at_call 47; (with_reducible refine (m3.out _ _ _ (n3.out _)).mono ?_); rintro e wm ⟨A2, c2, rfl, hc2, hA2, hbn⟩; replace HC := HC.trans (hbn.mono HC.size); replace HB := HB.trans (hbn.mono HB.size); clear hbn))
  obtain ⟨g1, o1, rfl, hg1, hr1⟩ := ((hA1.below HC).more HC.size).some_ HO4.out
  obtain ⟨g2, o2, rfl, hg2, hr2⟩ := hA2.some_ HO3.out
  obtain ⟨ra, rb⟩ := q0.out _ _ _ hr1
  obtain ⟨rc, rd⟩ := q3.out _ _ _ hr2
  have HLa := Lib.hid (kr.out g1 o1 wm I1 hg1 ra)
  have HLb := Lib.hid (kr.out g1 (o1 + 40) wm I3 hg1 rb)
  have HLc := Lib.hid (kr.out g2 o2 wm I2 hg2 rc)
  have HLd := Lib.hid (kr.out g2 (o2 + 40) wm I0 hg2 rd)
  have HBB := Lib.hid HB
  clear ra rb rc rd hg1 hr1 hg2 hr2 hA1 hA2 HC HB q0 q3 kr m0 m3 n3 n4 b3 b4 hc1 hc2
  refine wp_region_kept wm.heap.size wm (Below.refl _ _) (by kernel_rfl) (by kernel_rfl) ?_
  repeat (first
    | (go_big_quiet_want; (with_reducible refine quiet_loadV 26 (.tmp 31) rfl _ ?_ _ HLa.out ?_); rfl; simp only [Act.put, List.setIfInBounds_toArray, List.set_cons_zero, List.set_cons_succ]; go_big_quiet_on)
    | (go_big_quiet_want; (with_reducible refine quiet_loadV 26 (.tmp 39) rfl _ ?_ _ HLb.out ?_); rfl; simp only [Act.put, List.setIfInBounds_toArray, List.set_cons_zero, List.set_cons_succ]; go_big_quiet_on)
    | (go_big_quiet_want; (with_reducible refine quiet_loadV 26 (.tmp 52) rfl _ ?_ _ HLc.out ?_); rfl; simp only [Act.put, List.setIfInBounds_toArray, List.set_cons_zero, List.set_cons_succ]; go_big_quiet_on)
    | (go_big_quiet_want; (with_reducible refine quiet_loadV 26 (.tmp 60) rfl _ ?_ _ HLd.out ?_); rfl; simp only [Act.put, List.setIfInBounds_toArray, List.set_cons_zero, List.set_cons_succ]; go_big_quiet_on)
    | go_big_quiet_step (first
      | (go_at_call 72; with_reducible exact kept_of (Nat.le_refl _) i0.out _)
      | (go_at_call 72; with_reducible exact kept_of (Nat.le_refl _) i1.out _)
      | (go_at_call 72; with_reducible exact kept_of (Nat.le_refl _) i2.out _)
      | (go_at_call 72; with_reducible exact kept_of (Nat.le_refl _) i3.out _)))
  refine wpQuiet_nil ?_
  rintro _ ⟨⟨wz, hwz⟩, rfl⟩
  go_wp2
  go_ret
  exact ⟨rfl, HBB.out.trans (hwz.mono HBB.out.size)⟩
end Go.Proofs.Ytcoiaddjfeaciaa
