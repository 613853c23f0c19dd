/- Two new variables in either order: a plain lemma over any program. No condition. -/
import Derived.Test.YtbfhfnbhfeedbaaPPPSrb
namespace Go.Proofs.Ytbfhfnbhfeedbaa
set_option maxRecDepth 100000
set_option maxHeartbeats 1000000
open Go.RowKit Go.Lib Go.Great

/-- Two new variables, in either order. -/
theorem diamond_alloc {P : Program} {md : Region.Mode} {ops : Array Oper} {Q : Exit → Act → World → Prop} {S : World → Prop} (i j di dj : Nat) {oi oj : Oper} {fuel : Nat} {listed : Array Bool} {a : Act} {w : World}
    (hi : ops[i]? = some oi) (hj : ops[j]? = some oj) (hdi : oi.dst = some di) (hdj : oj.dst = some dj) (ti tj : TypeId) (hoi : oi.op = .alloc ti) (hoj : oj.op = .alloc tj)
    (hr : Region.ready md ops listed = [i, j]) (hri : Region.ready md ops (listed.setIfInBounds i true) = [j]) (hrj : Region.ready md ops (listed.setIfInBounds j true) = [i])
    (hne : i ≠ j) (hdne : di ≠ dj) (hgi : oi.guard = none) (hgj : oj.guard = none)
    (Z : Array Value) (hzi : ∀ ρ w, (execOp ρ oi).run P w = .ok (.value (.pointer (some ⟨w.heap.size, 0, none⟩))) (w.alloc (.cells Z ti))) (hzj : ∀ ρ w, (execOp ρ oj).run P w = .ok (.value (.pointer (some ⟨w.heap.size, 0, none⟩))) (w.alloc (.cells Z tj)))
    (hS : ∀ w o, S w → S (w.alloc o)) (hw : S w)
    (h : ∀ g g' w', (g = w.heap.size ∧ g' = w.heap.size + 1 ∨ g = w.heap.size + 1 ∧ g' = w.heap.size) → S w' → Below w.heap.size w w' → w'.heap[g]? = some (.cells Z ti (0, 0)) → w'.heap[g']? = some (.cells Z tj (0, 0)) →
      wpAnyH P md ops Q S fuel ((listed.setIfInBounds i true).setIfInBounds j true) ((a.put (some di) (.pointer (some ⟨g, 0, none⟩))).put (some dj) (.pointer (some ⟨g', 0, none⟩))) w') : wpAnyH P md ops Q S (fuel + 1 + 1) listed a w := by
  have wi : ∀ t, Region.wanted oi t = true := fun t => by unfold Region.wanted; rw [hgi]
  have wj : ∀ t, Region.wanted oj t = true := fun t => by unfold Region.wanted; rw [hgj]
  refine wpAnyH_ready hr (by simp) ?_
  refine AllReadyH.cons hi (fun K hK => ?_) (AllReadyH.cons hj (fun K hK => ?_) AllReadyH.nil)
  · rw [if_pos (wi _)]
    unfold Oper.wp
    rw [hzi]
    refine hK.out _ _ (hS _ _ hw) (fun _ => ?_)
    refine wpAnyH_ready hri (by simp) (AllReadyH.cons hj (fun K hK => ?_) AllReadyH.nil)
    rw [if_pos (wj _)]
    unfold Oper.wp
    rw [hzj]
    refine hK.out _ _ (hS _ _ (hS _ _ hw)) (fun _ => ?_)
    rw [hdi, hdj]
    obtain ⟨h1, h2, hb⟩ := heap2 w (.cells Z ti) (.cells Z tj)
    have e : (w.alloc (.cells Z ti)).heap.size = w.heap.size + 1 := by simp
    rw [e]
    exact h _ _ _ (.inl ⟨rfl, rfl⟩) (hS _ _ (hS _ _ hw)) hb h1 h2
  · rw [if_pos (wj _)]
    unfold Oper.wp
    rw [hzj]
    refine hK.out _ _ (hS _ _ hw) (fun _ => ?_)
    refine wpAnyH_ready hrj (by simp) (AllReadyH.cons hi (fun K hK => ?_) AllReadyH.nil)
    rw [if_pos (wi _)]
    unfold Oper.wp
    rw [hzi]
    refine hK.out _ _ (hS _ _ (hS _ _ hw)) (fun _ => ?_)
    rw [Array.setIfInBounds_comm _ _ (Ne.symm hne), hdi, hdj]
    obtain ⟨h1, h2, hb⟩ := heap2 w (.cells Z tj) (.cells Z ti)
    have e : (w.alloc (.cells Z tj)).heap.size = w.heap.size + 1 := by simp
    rw [e]
    have ec : (a.put (some dj) (.pointer (some ⟨w.heap.size, 0, none⟩))).put (some di) (.pointer (some ⟨w.heap.size + 1, 0, none⟩)) = (a.put (some di) (.pointer (some ⟨w.heap.size + 1, 0, none⟩))).put (some dj) (.pointer (some ⟨w.heap.size, 0, none⟩)) := by
      simp only [Act.put]
      rw [Array.setIfInBounds_comm _ _ (Ne.symm hdne)]
    rw [ec]
    exact h _ _ _ (.inr ⟨rfl, rfl⟩) (hS _ _ (hS _ _ hw)) hb h2 h1
theorem alloc_run {P : Program} {o : Oper} (t : TypeId) (ho : o.op = .alloc t) (Z : Array Value) (hz : ∀ W, (zeroValue t).run P W = .ok (.agg Z) W) (ρ : Operand → Value) (w : World) : (execOp ρ o).run P w = .ok (.value (.pointer (some ⟨w.heap.size, 0, none⟩))) (w.alloc (.cells Z t)) := by
  unfold execOp
  simp only [ho, Instr.alloc, Sem.run_bind, hz, Result.andThen_ok, Sem.run_pure]
  simp [go_sem, newVar]
end Go.Proofs.Ytbfhfnbhfeedbaa
