/- Contracts of the closures of package span: what tells the bits of an id of a bucket. Conditions: an id has 20 bytes. -/
import Derived.Test.YtieeffebecghiaaSca
namespace Go.Proofs.Ytieeffebecghiaa
set_option maxRecDepth 100000
set_option maxHeartbeats 1000000
open Go.RowKit Go.Lib Go.Great

/-- A call of a function's value. -/
theorem callV_run {P : Program} {o : Oper} {a : Act} {w : World} (f : Nat) (caps : Array Value) (x : Operand) {xs : Array Operand} {ts : Array TypeId} (ho : o.op = .call { callee := .value x, args := xs, argTypes := ts })
    (hx : a.eval x = .func (.func f) #[] caps) (eg : ∀ args w, (callFunc f args).run P w = .ok (.enter f args) w) (args : Array Value) (hargs : xs.map a.eval = args) : (execOp a.eval o).run P w = .ok (.enter f (args ++ caps)) w := by
  unfold execOp
  simp only [ho, resolve, invoke, Sem.run_bind, hx]
  simp only [Deferred.ofValue, Sem.run_pure, Result.andThen_ok, Array.empty_append, hargs, eg]
theorem looseR_callV {P : Program} {o : Oper} {a : Act} {w : World} {S : World → Prop} {X : Value → World → Prop} (f : Nat) (caps : Array Value) (x : Operand) {xs : Array Operand} {ts : Array TypeId} (ho : o.op = .call { callee := .value x, args := xs, argTypes := ts })
    (hx : a.eval x = .func (.func f) #[] caps) (eg : ∀ args w, (callFunc f args).run P w = .ok (.enter f args) w) (args : Array Value) (hargs : xs.map a.eval = args)
    (h : Calls P f (args ++ caps) w fun e w'' => ∃ v, e = .returned v ∧ S w'' ∧ Below w.heap.size w w'' ∧ X v w'') : LooseR P w S X ((execOp a.eval o).run P w) := by
  rw [callV_run f caps x ho hx eg args hargs]
  exact ⟨rfl, h⟩
theorem wpList_callV {P : Program} {ops : Array Oper} {rest : List Oper} {o : Oper} {a : Act} {w : World} {Q : Exit → Act → World → Prop} (hgd : o.guard = none) (f : Nat) (caps : Array Value) (x : Operand) {xs : Array Operand} {ts : Array TypeId} (ho : o.op = .call { callee := .value x, args := xs, argTypes := ts })
    (hx : a.eval x = .func (.func f) #[] caps) (eg : ∀ args w, (callFunc f args).run P w = .ok (.enter f args) w) (args : Array Value) (hargs : xs.map a.eval = args)
    (h : Calls P f (args ++ caps) w fun e w' => ∃ v, e = .returned v ∧ wpList P ops Q rest (a.put o.dst v) w') : wpList P ops Q (o :: rest) a w :=
  wpList_plain hgd fun _ hK => by
    unfold Oper.wp
    rw [callV_run f caps x ho hx eg args hargs]
    simp only [Oper.upon]
    exact h.mono (by rintro e w'' ⟨v, rfl, h1⟩; exact hK _ _ h1)

/-- The function f, with what it holds, tells the bits g in every world that keeps what lay below B in W0. -/
def TellsB (f : Nat) (caps : Array Value) (B : Nat) (W0 : World) (g : Nat → Bool) : Prop :=
  (∀ args w, (callFunc f args).run Try.prog w = .ok (.enter f args) w) ∧ ∀ j : Nat, j < 160 → ∀ W, Below B W0 W → Calls Try.prog f (#[.int .i64 (j : Int)] ++ caps) W fun e w' => e = .returned (.int .i64 (if g j then 1 else 0)) ∧ Below W.heap.size W w'
theorem low_bits (B : Nat) (W0 : World) : TellsB 25 #[] B W0 (fun _ => false) := by
  refine ⟨enters_of Try.func25 (by kernel_rfl) rfl, fun j _ W _ => ?_⟩
  simp only [Bool.false_eq_true, if_false, Array.append_empty]
  go_enter Try.func25, Try.ntmps25
  go_wp2
  go_ret
  exact ⟨rfl, Below.refl _ _⟩
theorem high_bits (B : Nat) (W0 : World) : TellsB 27 #[] B W0 (fun _ => true) := by
  refine ⟨enters_of Try.func27 (by kernel_rfl) rfl, fun j _ W _ => ?_⟩
  simp only [if_true, Array.append_empty]
  go_enter Try.func27, Try.ntmps27
  go_wp2
  go_ret
  exact ⟨rfl, Below.refl _ _⟩
theorem draw_bits (B : Nat) (W0 : World) (d : List UInt8) (hd : d.length = 20) (g : Nat) (hg : g < B) (h : W0.heap[g]? = some (.cells (bcells d).toArray 23 (0, 0))) : TellsB 28 #[.pointer (some ⟨g, 0, none⟩)] B W0 (bitL d) := by
  refine ⟨enters_of Try.func28 (by kernel_rfl) rfl, fun j hj W hb => ?_⟩
  have HK := Lib.hid (load26 hd ((hb.block g hg).trans h))
  have HB := Lib.hid (bit_yes d hd j hj)
  generalize bitL d j = b at HB ⊢
  generalize (if b then (1 : Int) else 0) = bi at HB ⊢
  generalize (bcells d).toArray = D at HK HB
  clear h hb
  simp only [List.append_toArray, List.cons_append, List.nil_append]
  go_enter Try.func28, Try.ntmps28
  go_wp2_with (first
    | ((with_reducible refine wpList_loadV (op := ⟨some 4, _, _, _, _, _⟩) rfl 23 (.tmp 1) rfl _ ?_ _ HK.out ?_); rfl)
    | (go_at_call 29; (with_reducible refine (HB.out _).mono ?_); rintro e w1 ⟨rfl, hb1⟩))
  go_ret
  exact ⟨rfl, hb1⟩

/-- The bits of an id of bucket k. -/
def laidB (o : List UInt8) (k : Nat) (g : Nat → Bool) (m : Nat) : Bool := if m < k then bitL o m else if m = k then !bitL o k else g m
theorem bucket_bits (o : List UInt8) (ho : o.length = 20) (k : Nat) (g : Nat → Bool) (f : Nat) (caps : Array Value) (B : Nat) (W0 : World) (hf : TellsB f caps B W0 g)
    (gi go gb : Nat) (h1 : gi < B) (h2 : go < B) (h3 : gb < B) (c1 : W0.cell? ⟨gi, 0, none⟩ = some (.int .i64 (k : Int))) (c2 : W0.heap[go]? = some (.cells (bcells o).toArray 23 (0, 0))) (c3 : W0.cell? ⟨gb, 0, none⟩ = some (.func (.func f) #[] caps)) :
    TellsB 35 #[.pointer (some ⟨gi, 0, none⟩), .pointer (some ⟨go, 0, none⟩), .pointer (some ⟨gb, 0, none⟩)] B W0 (laidB o k g) := by
  refine ⟨enters_of Try.func35 (by kernel_rfl) rfl, fun j hj W hb => ?_⟩
  have q1 : W.cell? ⟨gi, 0, none⟩ = some (.int .i64 (k : Int)) := (hb.cell (p := ⟨gi, 0, none⟩) h1).trans c1
  have HK := Lib.hid (load26 ho ((hb.block go h2).trans c2))
  have q3 : W.cell? ⟨gb, 0, none⟩ = some (.func (.func f) #[] caps) := (hb.cell (p := ⟨gb, 0, none⟩) h3).trans c3
  have HB := Lib.hid (bit_yes o ho j hj)
  have HF := Lib.hid (hf.2 j hj W hb)
  have HE := Lib.hid hf.1
  generalize (bcells o).toArray = O at HK HB
  clear c1 c2 c3 hb hf ho
  simp only [List.append_toArray, List.cons_append, List.nil_append]
  by_cases hlt : j < k
  · have hl : laidB o k g j = bitL o j := by unfold laidB; rw [if_pos hlt]
    rw [hl]
    generalize (if bitL o j then (1 : Int) else 0) = bi at HB ⊢
    clear HF HE q3 hl
    go_enter Try.func35, Try.ntmps35
    go_wp2_with (first
      | ((with_reducible refine wpList_loadV (op := ⟨some 13, _, _, _, _, _⟩) rfl 23 (.tmp 2) rfl _ ?_ _ HK.out ?_); rfl)
      | (go_at_call 29; (with_reducible refine (HB.out _).mono ?_); rintro e w1 ⟨rfl, hb1⟩))
    go_ret
    exact ⟨rfl, hb1⟩
  · by_cases heq : j = k
    · subst heq
      have hl : laidB o j g j = !bitL o j := by unfold laidB; rw [if_neg hlt, if_pos rfl]
      rw [hl]
      generalize bitL o j = b at HB ⊢
      clear HF HE q3 hl
      cases b
      all_goals
        simp only [Bool.not_false, Bool.not_true, Bool.false_eq_true, if_false, if_true] at HB ⊢
        go_enter Try.func35, Try.ntmps35
        go_wp2_with (first
          | ((with_reducible refine wpList_loadV (op := ⟨some 20, _, _, _, _, _⟩) rfl 23 (.tmp 2) rfl _ ?_ _ HK.out ?_); rfl)
          | (go_at_call 29; (with_reducible refine (HB.out _).mono ?_); rintro e w1 ⟨rfl, hb1⟩))
        go_ret
        exact ⟨rfl, hb1⟩
    · have hl : laidB o k g j = g j := by unfold laidB; rw [if_neg hlt, if_neg heq]
      rw [hl]
      generalize (if g j then (1 : Int) else 0) = bi at HF ⊢
      clear HB HK hl
      go_enter Try.func35, Try.ntmps35
      go_wp2_with ((with_reducible refine wpList_callV (o := ⟨some 8, _, _, _, _, _⟩) rfl f caps (.tmp 6) rfl ?_ HE.out #[.int .i64 (j : Int)] ?_ ?_); rfl; (simp only [List.map_toArray, List.map_cons, List.map_nil]; rfl); (with_reducible refine HF.out.mono ?_); rintro e w1 ⟨rfl, hb1⟩; refine ⟨_, rfl, ?_⟩)
      go_ret
      exact ⟨rfl, hb1⟩
end Go.Proofs.Ytieeffebecghiaa
