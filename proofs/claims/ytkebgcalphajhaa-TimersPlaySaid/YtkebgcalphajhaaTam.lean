/- Due of the package timers, keys are ints. Conditions: a table that is made, in the order of its ticks. -/
import Derived.Test.YtkebgcalphajhaaTal
import Derived.Test.YtkebgcalphajhaaTgb
import Derived.Test.YtkebgcalphajhaaRaj
namespace Go.Proofs.Ytkebgcalphajhaa
open Go.RowKit Go.Lib Go.Shelf
set_option maxRecDepth 100000
set_option maxHeartbeats 400000
theorem rowK : RowT 39 3 1 := by
  obtain ⟨i, hi, h1, h2, h3⟩ := info_parts (P := Try.prog) (e := 3) (z := Value.int .i64 default) (size := 1) (bytes := 8) (by kernel_rfl)
  exact ⟨by kernel_rfl, ⟨i, _, hi, h1, h2, by omega, rfl, fun u hu => by
    have hu : u ∈ [Value.int .i64 default] := hu
    rw [List.mem_singleton.1 hu]
    rfl⟩, by omega⟩
/-- append into a row, inside a fence that fences nothing off. -/
theorem wpListIn_append_row {F : Fence} {m : Nat} {T e k : Nat} (hT : RowT T e k) {w : World} {ops : Array Oper} {rest : List Oper} {o : Oper} {a : Act} {Q : Exit → Act → World → Prop} (hF : ∀ f, F.fn f) (hgd : o.guard = none) (s x : Operand) {tx : TypeId}
    (ho : o.op = .call { callee := .builtin .append, args := #[s, x], argTypes := #[T, tx] })
    (v : Value) (n : Nat) (xs : List Value) (hv : a.eval s = v) (hR : RowAt w e k v n xs) (y : Value) (m' : Nat) (news : List Value) (hy : a.eval x = y) (hs : Src Try.prog k tx y m' news w) (hm : n + m' ≤ 100000000)
    (h : ∀ v' w', RowAt w' e k v' (n + m') (xs ++ news) → FreshV w v v' → w.grownBy w' v.ownBlock → wpListIn F m Try.prog ops Q rest (a.put o.dst v') w') : wpListIn F m Try.prog ops Q (o :: rest) a w :=
  BigFrame.wpListIn_want (by simp [Region.wanted, hgd]) fun K hK => by
    obtain ⟨v', w', hrun, h1, h2, h3⟩ := run_append_row hT w o.type tx v n xs hR y m' news hs hm
    refine ⟨fun f hf => hF f, ?_⟩
    rw [Oper.semAt_plain F _ _ (by rw [ho]; intro c hc'; cases hc')]
    simp [execOp, ho, resolve, invoke, builtin, hv, hy, hrun, Result.andThen]
    exact hK _ _ (h v' w' h1 h2 h3)
def keysV (L : List (Int × Nat)) : List Value := L.map fun t => Value.int .i64 t.1
theorem due43_yes (a now : Nat) (h : dueT now ((default : Int), a) = true) (w : World) : Calls Try.prog 43 #[.int .u64 (a : Int), .int .u64 (now : Int)] w fun e w' => e = .returned (.bool true) ∧ w' = w := by
  unfold dueT lastT at h
  simp only [Bool.and_eq_true, decide_eq_true_eq] at h
  have h1 : (a : Int) ≤ (now : Int) := by omega
  have h2 : ¬ (a : Int) = 18446744073709551615 := by omega
  have h3 : ((a : Int) != 18446744073709551615) = true := bne_iff_ne.2 h2
  clear h
  go_enter Try.func43, Try.ntmps43
  go_wp2
  go_ret
  exact ⟨rfl, rfl⟩
theorem due43_no (a now : Nat) (h : dueT now ((default : Int), a) = false) (w : World) : Calls Try.prog 43 #[.int .u64 (a : Int), .int .u64 (now : Int)] w fun e w' => e = .returned (.bool false) ∧ w' = w := by
  unfold dueT lastT at h
  simp only [Bool.and_eq_false_iff, decide_eq_false_iff_not] at h
  by_cases h1 : (a : Int) ≤ (now : Int)
  · have h2 : (a : Int) = 18446744073709551615 := by omega
    rw [h2] at h1 ⊢
    clear h h2
    go_enter Try.func43, Try.ntmps43
    go_wp2
    go_ret
    exact ⟨rfl, rfl⟩
  · clear h
    go_enter Try.func43, Try.ntmps43
    go_wp2
    go_ret
    exact ⟨rfl, rfl⟩
end Go.Proofs.Ytkebgcalphajhaa
