/- More steps of regions that draw their order: two operations under a narrower class of worlds, and a store that comes last: plain lemmas over any program. No condition. -/
import Derived.Test.YtbfhfnbhfeedbaaPPPDia
import Derived.ProofKit
import Derived.OpenShut
import Derived.Test.YtbfhfnbhfeedbaaRows
import Derived.ChangeOld
import Derived.Laws.Tables
namespace Go.Proofs.Ytbfhfnbhfeedbaa
set_option maxRecDepth 100000
open Go.RowKit

/-- Two that may come now, and nothing else may ahead of both; what each yields is said for a class S1 within S. -/
theorem diamond2 {P : Program} {md : Region.Mode} {ops : Array Oper} {Q : Exit → Act → World → Prop} {S : World → Prop} (S1 : World → Prop) (hSS : ∀ w, S1 w → S w) (i j di dj : Nat) {oi oj : Oper} {fuel : Nat} {listed : Array Bool} {a : Act} {w : World}
    (hi : ops[i]? = some oi) (hj : ops[j]? = some oj) (hdi : oi.dst = some di) (hdj : oj.dst = some dj)
    (hs : Region.noSelect ops = true) (hr : Region.ready md ops listed = [i, j]) (hri : Region.ready md ops (listed.setIfInBounds i true) = [j]) (hrj : Region.ready md ops (listed.setIfInBounds j true) = [i])
    (hne : i ≠ j) (hij : oi.apart ops oj = true) (hji : oj.apart ops oi = true) (wi : Region.wanted oi (yielded ops a.tmps) = true) (wj : Region.wanted oj (yielded ops a.tmps) = true)
    (X Y : Value → World → Prop) (hX : ∀ v w w', Below w.heap.size w w' → X v w → X v w') (hY : ∀ v w w', Below w.heap.size w w' → Y v w → Y v w')
    (li : Loose P oi a S1 X) (lj : Loose P oj a S1 Y) (hw : S1 w)
    (h : ∀ u v w', S1 w' → Below w.heap.size w w' → X u w' → Y v w' → wpAnyH P md ops Q S fuel ((listed.setIfInBounds i true).setIfInBounds j true) ((a.put (some di) u).put (some dj) v) w') : wpAnyH P md ops Q S (fuel + 1 + 1) listed a w := by
  refine wpAnyH_ready hr (by simp) ?_
  refine AllReadyH.cons hi (fun K hK => ?_) (AllReadyH.cons hj (fun K hK => ?_) AllReadyH.nil)
  · rw [if_pos wi]
    refine li.wp hw (fun u w1 hs1 hb1 hx => hK.out _ _ (hSS _ hs1) (fun _ => ?_))
    refine wpAnyH_ready hri (by simp) (AllReadyH.cons hj (fun K hK => ?_) AllReadyH.nil)
    rw [if_pos (by rw [wanted_put oj a oi.dst u (Oper.apart_spec hij).1]; exact wj)]
    refine (lj.put hs hj hij u).wp hs1 (fun v w2 hs2 hb2 hy => hK.out _ _ (hSS _ hs2) (fun _ => ?_))
    rw [hdi, hdj]
    exact h u v w2 hs2 (hb1.trans (hb2.mono hb1.size)) (hX _ _ _ hb2 hx) hy
  · rw [if_pos wj]
    refine lj.wp hw (fun v w1 hs1 hb1 hy => hK.out _ _ (hSS _ hs1) (fun _ => ?_))
    refine wpAnyH_ready hrj (by simp) (AllReadyH.cons hi (fun K hK => ?_) AllReadyH.nil)
    rw [if_pos (by rw [wanted_put oi a oj.dst v (Oper.apart_spec hji).1]; exact wi)]
    refine (li.put hs hi hji v).wp hs1 (fun u w2 hs2 hb2 hx => hK.out _ _ (hSS _ hs2) (fun _ => ?_))
    rw [Array.setIfInBounds_comm _ _ (Ne.symm hne), hdi, hdj]
    have e := Act.put_comm a u v (Oper.apart_spec hij).2.1
    rw [hdi, hdj] at e
    first
      | (rw [e]; exact h u v w2 hs2 (hb1.trans (hb2.mono hb1.size)) hx (hY _ _ _ hb2 hy))
      | (rw [← e]; exact h u v w2 hs2 (hb1.trans (hb2.mono hb1.size)) hx (hY _ _ _ hb2 hy))
/-- A store of a whole row that alone may come now. -/
theorem single_store {P : Program} {md : Region.Mode} {ops : Array Oper} {Q : Exit → Act → World → Prop} {S : World → Prop} (i : Nat) {oi : Oper} {fuel : Nat} {listed : Array Bool} {a : Act} {w : World}
    (hi : ops[i]? = some oi) (hdi : oi.dst = none) (hr : Region.ready md ops listed = [i]) (wi : Region.wanted oi (yielded ops a.tmps) = true)
    (ty : TypeId) (x y : Operand) (ho : oi.op = .store ty x y) (g : Nat) (cells : Array Value) (hx : a.eval x = .pointer (some ⟨g, 0, none⟩)) (hy : a.eval y = .agg cells)
    (t : TypeId) (old : Array Value) (hg : w.heap[g]? = some (.cells old t (0, 0))) (hinfo : (P.info? ty).map (·.size) = some cells.size)
    (hold : old.size = cells.size) (h1 : cells.all (·.oneCell') = true) (hS : S (w.setRow g cells))
    (h : wpAnyH P md ops Q S fuel (listed.setIfInBounds i true) a (w.setRow g cells)) : wpAnyH P md ops Q S (fuel + 1) listed a w := by
  refine wpAnyH_ready hr (by simp) (AllReadyH.cons hi (fun K hK => ?_) AllReadyH.nil)
  rw [if_pos wi]
  refine wp_store_row ty x y ho g cells hx hy t old hg hinfo hold h1 (hK.out _ _ hS (fun _ => ?_))
  rw [hdi]
  exact h
/-- A read, under a class. -/
theorem loose_load {P : Program} {o : Oper} {a : Act} {S : World → Prop} (ty : TypeId) (x : Operand) (ho : o.op = .load ty x) (p : Addr) (hx : a.eval x = .pointer (some p)) (v : Value) (hl : ∀ w, S w → (loadVar ty p).run P w = .ok v w) : Loose P o a S (fun u _ => u = v) := by
  intro w hw
  have : (execOp a.eval o).run P w = .ok (.value v) w := by
    unfold execOp
    simp only [ho, hx, Instr.loadAt, Instr.sureAddr, Sem.run_bind, Sem.run_pure, Result.andThen_ok, hl w hw]
  rw [this]
  exact ⟨hw, Below.refl _ _, rfl⟩
end Go.Proofs.Ytbfhfnbhfeedbaa
