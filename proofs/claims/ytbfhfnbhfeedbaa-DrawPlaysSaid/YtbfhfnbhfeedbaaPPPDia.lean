/- Two operations of a region that may come in either order, each of which makes memory: plain lemmas over any program. No condition. -/
import Derived.Test.YtbfhfnbhfeedbaaPPPMed
import Derived.Below
namespace Go.Proofs.Ytbfhfnbhfeedbaa
set_option maxRecDepth 100000
open Go.RowKit

def LooseR (P : Program) (w : World) (S : World → Prop) (X : Value → World → Prop) : Result Next → Prop
  | .ok (.value v) w' => S w' ∧ Below w.heap.size w w' ∧ X v w'
  | .ok (.enter f args) w' => w' = w ∧ Calls P f args w (fun e w'' => ∃ v, e = .returned v ∧ S w'' ∧ Below w.heap.size w w'' ∧ X v w'')
  | _ => False
/-- In every world of S the operation yields a value, and leaves a world of S that keeps what stood; of the two X holds. -/
def Loose (P : Program) (o : Oper) (a : Act) (S : World → Prop) (X : Value → World → Prop) : Prop := ∀ w, S w → LooseR P w S X ((execOp a.eval o).run P w)
theorem LooseR.wp {P : Program} {o : Oper} {a : Act} {S : World → Prop} {X : Value → World → Prop} {w : World} (this : LooseR P w S X ((execOp a.eval o).run P w)) {K : Act → World → Prop} {Q : Exit → Act → World → Prop}
    (hK : ∀ v w', S w' → Below w.heap.size w w' → X v w' → K (a.put o.dst v) w') : o.wp P a w K Q := by
  unfold Oper.wp
  generalize (execOp a.eval o).run P w = r at *
  cases r with
  | halt x w' => cases this
  | ok n w' =>
    cases n <;> simp only [LooseR] at this <;> simp only [Oper.upon]
    case value v => exact hK v w' this.1 this.2.1 this.2.2
    case enter f args =>
      obtain ⟨rfl, hc⟩ := this
      exact hc.mono (by rintro e w'' ⟨v, rfl, h1, h2, h3⟩; exact hK v w'' h1 h2 h3)
theorem Loose.wp {P : Program} {o : Oper} {a : Act} {S : World → Prop} {X : Value → World → Prop} (h : Loose P o a S X) {w : World} (hw : S w) {K : Act → World → Prop} {Q : Exit → Act → World → Prop}
    (hK : ∀ v w', S w' → Below w.heap.size w w' → X v w' → K (a.put o.dst v) w') : o.wp P a w K Q := LooseR.wp (h w hw) hK
theorem Loose.put {P : Program} {ops : Array Oper} {o o' : Oper} {a : Act} {S : World → Prop} {X : Value → World → Prop} (h : Loose P o a S X) (hs : Region.noSelect ops = true) {i : Nat} (hi : ops[i]? = some o) (hap : o'.apart ops o = true) (u : Value) : Loose P o (a.put o'.dst u) S X := by
  obtain ⟨h1, _, _⟩ := Oper.apart_spec hap
  intro w hw
  rw [execOp_put o (fun cs b => Region.noSelect_spec hs i o cs b hi) a o'.dst u h1]
  exact h w hw

/-- One that alone may come now. -/
theorem single {P : Program} {md : Region.Mode} {ops : Array Oper} {Q : Exit → Act → World → Prop} {S : World → Prop} (i di : Nat) {oi : Oper} {fuel : Nat} {listed : Array Bool} {a : Act} {w : World}
    (hi : ops[i]? = some oi) (hdi : oi.dst = some di) (hr : Region.ready md ops listed = [i]) (wi : Region.wanted oi (yielded ops a.tmps) = true)
    (X : Value → World → Prop) (li : LooseR P w S X ((execOp a.eval oi).run P w))
    (h : ∀ u w', S w' → Below w.heap.size w w' → X u w' → wpAnyH P md ops Q S fuel (listed.setIfInBounds i true) (a.put (some di) u) w') : wpAnyH P md ops Q S (fuel + 1) listed a w := by
  refine wpAnyH_ready hr (by simp) (AllReadyH.cons hi (fun K hK => ?_) AllReadyH.nil)
  rw [if_pos wi]
  refine LooseR.wp li (fun u w1 hs1 hb1 hx => hK.out _ _ hs1 (fun _ => ?_))
  rw [hdi]
  exact h u w1 hs1 hb1 hx
theorem looseR_call {P : Program} {o : Oper} {a : Act} {w : World} {S : World → Prop} {X : Value → World → Prop} (f : Nat) {xs : Array Operand} {ts : Array TypeId} (ho : o.op = .call { callee := .value (.func f), args := xs, argTypes := ts })
    (eg : ∀ args w, (callFunc f args).run P w = .ok (.enter f args) w) (args : Array Value) (hargs : xs.map a.eval = args)
    (h : Calls P f args w fun e w'' => ∃ v, e = .returned v ∧ S w'' ∧ Below w.heap.size w w'' ∧ X v w'') : LooseR P w S X ((execOp a.eval o).run P w) := by
  have : (execOp a.eval o).run P w = .ok (.enter f args) w := by
    unfold execOp
    simp only [ho, resolve, invoke, hargs, Sem.run_bind]
    rw [show a.eval (.func f) = .func (.func f) #[] #[] from rfl]
    simp only [Deferred.ofValue, Sem.run_pure, Result.andThen_ok, Array.empty_append, Array.append_empty, eg]
  rw [this]
  exact ⟨rfl, h⟩
theorem loose_call {P : Program} {o : Oper} {a : Act} {S : World → Prop} {X : Value → World → Prop} (f : Nat) {xs : Array Operand} {ts : Array TypeId} (ho : o.op = .call { callee := .value (.func f), args := xs, argTypes := ts })
    (eg : ∀ args w, (callFunc f args).run P w = .ok (.enter f args) w) (args : Array Value) (hargs : xs.map a.eval = args)
    (h : ∀ w, S w → Calls P f args w fun e w'' => ∃ v, e = .returned v ∧ S w'' ∧ Below w.heap.size w w'' ∧ X v w'') : Loose P o a S X := fun w hw => looseR_call f ho eg args hargs (h w hw)
end Go.Proofs.Ytbfhfnbhfeedbaa
