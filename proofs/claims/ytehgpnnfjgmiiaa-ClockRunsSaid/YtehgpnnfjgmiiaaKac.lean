/- The closure of Every; Every of the program and of the reference. No condition. -/
import Derived.Test.YtehgpnnfjgmiiaaKab
namespace Go.Proofs.Ytehgpnnfjgmiiaa
open Go.RowKit Go.Lib Go.Great
set_option maxRecDepth 100000
set_option maxHeartbeats 1000000
def laterK (n a : Nat) : Nat := if a ≤ n then 18446744073709551615 else a
theorem laterK_lt (n a : Nat) (h : a < 18446744073709551616) : laterK n a < 18446744073709551616 := by unfold laterK; split <;> omega
def nearK (f s n : Nat) : Nat := addK f s + (n - addK f s) - (n - addK f s) % s
theorem every_eq (f s n : Nat) (hf : f < 18446744073709551616) (hs : s < 18446744073709551616) (hn : n < 18446744073709551616) (h0 : s ≠ 0) : everyK f s n = firstK [laterK n (nearK f s n), laterK n (addK (nearK f s n) s)] := by
  have h1 := addK_lt f s
  unfold everyK nearK firstK
  rw [if_neg h0]
  simp only [List.foldl_cons, List.foldl_nil]
  generalize addK f s = a at *
  by_cases ha : a > n
  · rw [if_pos (.inl ha), show n - a = 0 by omega, Nat.zero_mod, Nat.add_zero, Nat.sub_zero]
    have h2 := addK_le a s h1
    have h3 := addK_lt a s
    unfold laterK
    rw [if_neg (by omega), if_neg (by omega)]
    omega
  · have hm := Nat.div_add_mod (n - a) s
    rw [Nat.mul_comm] at hm
    have hlt := Nat.mod_lt (n - a) (by omega : s > 0)
    generalize (n - a) % s = r at *
    generalize (n - a) / s * s = q at *
    have e : a + (n - a) - r = a + q := by omega
    rw [e]
    have l1 : laterK n (a + q) = 18446744073709551615 := by unfold laterK; rw [if_pos (by omega)]
    rw [l1]
    by_cases hM : a = 18446744073709551615
    · rw [if_pos (.inr hM)]
      have : n = 18446744073709551615 := by omega
      have h3 := addK_lt (a + q) s
      unfold laterK
      rw [if_pos (by omega)]
      omega
    · rw [if_neg (by omega)]
      have h3 := addK_lt (a + q) s
      unfold laterK
      split
      · rename_i h4
        unfold addK at h4 h3 ⊢
        split at h4 <;> split <;> omega
      · omega
theorem callV_run {P : Program} {o : Oper} {a : Act} {w : World} (f : Nat) (caps : Array Value) (x : Operand) {xs : Array Operand} {ts : Array TypeId} (ho : o.op = .call { callee := .value x, args := xs, argTypes := ts })
    (hx : a.eval x = .func (.func f) #[] caps) (eg : ∀ args w, (callFunc f args).run P w = .ok (.enter f args) w) (args : Array Value) (hargs : xs.map a.eval = args) : (execOp a.eval o).run P w = .ok (.enter f (args ++ caps)) w := by
  unfold execOp
  simp only [ho, resolve, invoke, Sem.run_bind, hx]
  simp only [Deferred.ofValue, Sem.run_pure, Result.andThen_ok, Array.empty_append, hargs, eg]
theorem wpList_callV {P : Program} {ops : Array Oper} {rest : List Oper} {o : Oper} {a : Act} {w : World} {Q : Exit → Act → World → Prop} (hgd : o.guard = none) (f : Nat) (caps : Array Value) (x : Operand) {xs : Array Operand} {ts : Array TypeId} (ho : o.op = .call { callee := .value x, args := xs, argTypes := ts })
    (hx : a.eval x = .func (.func f) #[] caps) (eg : ∀ args w, (callFunc f args).run P w = .ok (.enter f args) w) (args : Array Value) (hargs : xs.map a.eval = args)
    (h : Calls P f (args ++ caps) w fun e w' => ∃ v, e = .returned v ∧ wpList P ops Q rest (a.put o.dst v) w') : wpList P ops Q (o :: rest) a w :=
  wpList_plain hgd fun _ hK => by
    unfold Oper.wp
    rw [callV_run f caps x ho hx eg args hargs]
    simp only [Oper.upon]
    exact h.mono (by rintro e w'' ⟨v, rfl, h1⟩; exact hK _ _ h1)
theorem later_enters : ∀ args w, (callFunc 21 args).run Try.prog w = .ok (.enter 21 args) w := enters_of Try.func21 (by kernel_rfl) rfl
theorem later_any (n a g : Nat) (w : World) (q : w.cell? ⟨g, 0, none⟩ = some (.int .u64 (n : Int))) : Calls Try.prog 21 (#[.int .u64 (a : Int)] ++ #[.pointer (some ⟨g, 0, none⟩)]) w fun e w' => e = .returned (.int .u64 (laterK n a : Int)) ∧ w' = w := by
  simp only [List.append_toArray, List.cons_append, List.nil_append]
  by_cases h : a ≤ n
  · have h1 : laterK n a = 18446744073709551615 := by unfold laterK; rw [if_pos h]
    have h2 : (a : Int) ≤ (n : Int) := by omega
    rw [h1]
    go_enter Try.func21, Try.ntmps21
    go_wp2
    go_ret
    exact ⟨rfl, rfl⟩
  · have h1 : laterK n a = a := by unfold laterK; rw [if_neg h]
    have h2 : ¬ (a : Int) ≤ (n : Int) := by omega
    rw [h1]
    go_enter Try.func21, Try.ntmps21
    go_wp2
    go_ret
    exact ⟨rfl, rfl⟩
theorem revery_zero (f n : Nat) (w : World) : Calls Try.prog 16 #[.int .u64 (f : Int), .int .u64 0, .int .u64 (n : Int)] w fun e w' => e = .returned (.int .u64 18446744073709551615) ∧ w' = w := by
  go_enter Try.func16, Try.ntmps16
  go_wp2
  go_ret
  exact ⟨rfl, rfl⟩
theorem revery_late (f s n : Nat) (hf : f < 18446744073709551616) (hs : s < 18446744073709551616) (hn : n < 18446744073709551616) (h0 : ¬ s = 0) (ha : addK f s > n) (w : World) : Calls Try.prog 16 #[.int .u64 (f : Int), .int .u64 (s : Int), .int .u64 (n : Int)] w fun e w' => e = .returned (.int .u64 (addK f s : Int)) ∧ w' = w := by
  have h2 : ((s : Int) == 0) = false := by simp; omega
  have h3 : ¬ (s : Int) = 0 := by omega
  have HA := Lib.hid (radd_any f s hf hs)
  have hlt := addK_lt f s
  generalize addK f s = a at *
  have h4 : (n : Int) < (a : Int) := by omega
  go_enter Try.func16, Try.ntmps16
  go_wp2_with (go_at_call 8; (with_reducible refine (HA.out _).mono ?_); rintro e w1 ⟨rfl, rfl⟩)
  go_ret
  exact ⟨rfl, rfl⟩
theorem revery_top (f s : Nat) (hf : f < 18446744073709551616) (hs : s < 18446744073709551616) (h0 : ¬ s = 0) (hM : addK f s = 18446744073709551615) (w : World) : Calls Try.prog 16 #[.int .u64 (f : Int), .int .u64 (s : Int), .int .u64 18446744073709551615] w fun e w' => e = .returned (.int .u64 18446744073709551615) ∧ w' = w := by
  have h2 : ((s : Int) == 0) = false := by simp; omega
  have h3 : ¬ (s : Int) = 0 := by omega
  have HA : Hid (∀ W, Calls Try.prog 8 #[.int .u64 (f : Int), .int .u64 (s : Int)] W fun e w' => e = .returned (.int .u64 18446744073709551615) ∧ w' = W) := Lib.hid (fun W => by
    have h := radd_any f s hf hs W
    rw [hM] at h
    exact h)
  clear hM
  go_enter Try.func16, Try.ntmps16
  go_wp2_with (go_at_call 8; (with_reducible refine (HA.out _).mono ?_); rintro e w1 ⟨rfl, rfl⟩)
  go_ret
  exact ⟨rfl, rfl⟩
theorem revery_some (f s n : Nat) (hf : f < 18446744073709551616) (hs : s < 18446744073709551616) (hn : n < 18446744073709551616) (h0 : ¬ s = 0) (ha : ¬ addK f s > n) (hM : ¬ addK f s = 18446744073709551615) (w : World) : Calls Try.prog 16 #[.int .u64 (f : Int), .int .u64 (s : Int), .int .u64 (n : Int)] w fun e w' => e = .returned (.int .u64 (addK (addK f s + (n - addK f s) / s * s) s : Int)) ∧ w' = w := by
  have h2 : ((s : Int) == 0) = false := by simp; omega
  have h3 : ¬ (s : Int) = 0 := by omega
  have HA := Lib.hid (radd_any f s hf hs)
  have hlt := addK_lt f s
  generalize addK f s = a at *
  have h4 : ¬ (n : Int) < (a : Int) := by omega
  have h5 : ((a : Int) == 18446744073709551615) = false := by simp; omega
  have hq : (n - a) / s * s ≤ n - a := Nat.div_mul_le_self _ _
  have e1 : ((n - a : Nat) : Int) = (n : Int) - (a : Int) := by omega
  have e2 : (((n - a) / s * s : Nat) : Int) = ((n : Int) - (a : Int)) / (s : Int) * (s : Int) := by rw [Int.natCast_mul, Int.natCast_ediv, e1]
  have HA2 := Lib.hid (radd_any (a + (n - a) / s * s) s (by omega) hs)
  generalize addK (a + (n - a) / s * s) s = z at *
  generalize (n - a) / s * s = m at *
  have p1 : 0 ≤ ((n : Int) - (a : Int)) / (s : Int) * (s : Int) := by rw [← e2]; omega
  have p2 : ((n : Int) - (a : Int)) / (s : Int) * (s : Int) ≤ (n : Int) - (a : Int) := by rw [← e2]; omega
  have HZ : Hid ((a : Int) + ((n : Int) - (a : Int)) / (s : Int) * (s : Int) = ((a + m : Nat) : Int)) := Lib.hid (by rw [← e2]; omega)
  clear e2 e1
  generalize a + m = b at *
  clear hq
  go_enter Try.func16, Try.ntmps16
  go_wp2_with (first | (go_at_call 8; (with_reducible refine (HA.out _).mono ?_); rintro e w1 ⟨rfl, rfl⟩) | (go_at_call 8; rw [HZ.out]; (with_reducible refine (HA2.out _).mono ?_); rintro e w1 ⟨rfl, rfl⟩))
  go_ret
  exact ⟨rfl, rfl⟩
theorem revery_any (f s n : Nat) (hf : f < 18446744073709551616) (hs : s < 18446744073709551616) (hn : n < 18446744073709551616) (w : World) : Calls Try.prog 16 #[.int .u64 (f : Int), .int .u64 (s : Int), .int .u64 (n : Int)] w fun e w' => e = .returned (.int .u64 (everyK f s n : Int)) ∧ w' = w := by
  unfold everyK
  split
  · rename_i h
    subst h
    exact revery_zero f n w
  · split
    · rename_i h0 h
      by_cases ha : addK f s > n
      · exact revery_late f s n hf hs hn h0 ha w
      · have hM : addK f s = 18446744073709551615 := by omega
        have hn2 : n = 18446744073709551615 := by omega
        have := revery_top f s hf hs h0 hM w
        rw [hM, hn2]
        exact this
    · exact revery_some f s n hf hs hn (by assumption) (by omega) (by omega) w
end Go.Proofs.Ytehgpnnfjgmiiaa
