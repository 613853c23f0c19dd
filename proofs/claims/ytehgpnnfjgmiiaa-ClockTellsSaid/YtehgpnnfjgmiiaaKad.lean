/- Every of the program. No condition. -/
import Derived.Test.YtehgpnnfjgmiiaaKac
namespace Go.Proofs.Ytehgpnnfjgmiiaa
open Go.RowKit Go.Lib Go.Great
set_option maxRecDepth 100000
set_option maxHeartbeats 1000000
theorem run_two (a b : Int) (W : World) : (Instr.buildSlice 23 2 #[(0, .int .u64 a), (1, .int .u64 b)]).run Try.prog W = .ok (.slice (some ⟨W.heap.size, 0, none⟩) 2 2) (W.alloc (.cells #[.int .u64 a, .int .u64 b] 22)) := by kernel_rfl
theorem wpList_two {ops : Array Oper} {rest : List Oper} {o : Oper} {act : Act} {w : World} {Q : Exit → Act → World → Prop} (hgd : o.guard = none) (d : Nat) (hd : o.dst = some d) (x y : Operand) (ho : o.op = .buildSlice 23 2 #[(0, x), (1, y)]) (a b : Int)
    (hx : act.eval x = .int .u64 a) (hy : act.eval y = .int .u64 b)
    (h : wpList Try.prog ops Q rest (act.put (some d) (.slice (some ⟨w.heap.size, 0, none⟩) 2 2)) (w.alloc (.cells #[.int .u64 a, .int .u64 b] 22))) : wpList Try.prog ops Q (o :: rest) act w :=
  wpList_plain hgd fun _ hK => by
    unfold Oper.wp execOp
    simp only [ho, List.map_toArray, List.map_cons, List.map_nil, hx, hy, Sem.run_bind, run_two, Result.andThen_ok, Sem.run_pure]
    rw [← hd] at h
    exact hK _ _ h
theorem two_at (a b : Nat) (w : World) : UAt (w.alloc (.cells #[.int .u64 (a : Int), .int .u64 (b : Int)] 22)) (w.heap.size + 1) (some ⟨w.heap.size, 0, none⟩) [a, b] := by
  refine .inr ⟨w.heap.size, 0, rfl, by omega, fun j hj => ?_⟩
  have h := heap_alloc_new w (.cells #[.int .u64 (a : Int), .int .u64 (b : Int)] 22)
  have hc : ∀ k v, #[Value.int .u64 (a : Int), .int .u64 (b : Int)][k]? = some v → (w.alloc (.cells #[.int .u64 (a : Int), .int .u64 (b : Int)] 22)).cell? ⟨w.heap.size, k, none⟩ = some v := fun k v hk => by
    unfold World.cell?
    rw [h]
    exact hk
  match j, hj with
  | 0, _ => exact hc 0 _ rfl
  | 1, _ => exact hc 1 _ rfl
  | k + 2, hj => exact absurd hj (by simp)
theorem first_two (a b : Nat) (w w1 : World) (hw : w1 = w.alloc (.cells #[.int .u64 (a : Int), .int .u64 (b : Int)] 22)) (B : Nat) (w0 : World) (h0 : Below B w0 w) (hB : B ≤ w.heap.size) : Calls Try.prog 13 #[.slice (some ⟨w.heap.size, 0, none⟩) 2 2] w1 fun e w' => e = .returned (.int .u64 (firstK [a, b] : Int)) ∧ Below B w0 w' := by
  subst hw
  have hu := two_at a b w
  have e : (w.alloc (.cells #[.int .u64 (a : Int), .int .u64 (b : Int)] 22)).heap.size = w.heap.size + 1 := by simp
  rw [← e] at hu
  have h := first_any (some ⟨w.heap.size, 0, none⟩) 2 [a, b] (w.alloc (.cells #[.int .u64 (a : Int), .int .u64 (b : Int)] 22)) (by simp) hu
  refine h.mono ?_
  rintro e w' ⟨rfl, hb⟩
  exact ⟨rfl, (h0.alloc hB _).trans (hb.mono (by simp; omega))⟩
theorem every_zero (f n : Nat) (w : World) : Calls Try.prog 15 #[.int .u64 (f : Int), .int .u64 0, .int .u64 (n : Int)] w fun e w' => e = .returned (.int .u64 18446744073709551615) ∧ Below w.heap.size w w' := by
  have HB : Hid (Below w.heap.size w (w.alloc (.cells #[.int .u64 (n : Int)] 22))) := Lib.hid ((Below.refl _ w).alloc (Nat.le_refl _) _)
  go_enter Try.func15, Try.ntmps15
  go_wp2
  go_ret
  exact ⟨rfl, HB.out⟩
theorem every_some (f s n : Nat) (hf : f < 18446744073709551616) (hs : s < 18446744073709551616) (hn : n < 18446744073709551616) (h0 : s ≠ 0) (w : World) : Calls Try.prog 15 #[.int .u64 (f : Int), .int .u64 (s : Int), .int .u64 (n : Int)] w fun e w' => e = .returned (.int .u64 (everyK f s n : Int)) ∧ Below w.heap.size w w' := by
  have HB : Hid (Below w.heap.size w (w.alloc (.cells #[.int .u64 (n : Int)] 22))) := Lib.hid ((Below.refl _ w).alloc (Nat.le_refl _) _)
  have h2 : ((s : Int) == 0) = false := by simp; omega
  have h3 : ¬ (s : Int) = 0 := by omega
  rw [every_eq f s n hf hs hn h0]
  have hlt := addK_lt f s
  have hnl : nearK f s n < 18446744073709551616 := by
    unfold nearK
    have := Nat.mod_le (n - addK f s) s
    by_cases h : addK f s ≤ n <;> omega
  have HA := Lib.hid (add_any f s hf hs)
  have HS : Hid (∀ W, Calls Try.prog 9 #[.int .u64 (n : Int), .int .u64 (addK f s : Int)] W fun e w' => e = .returned (.int .u64 ((n - addK f s : Nat) : Int)) ∧ w' = W) := Lib.hid (fun W => sub_any n (addK f s) hn hlt W)
  have HA2 := Lib.hid (add_any (nearK f s n) s hnl hs)
  have HE := Lib.hid later_enters
  have q : (w.alloc (.cells #[.int .u64 (n : Int)] 22)).cell? ⟨w.heap.size, 0, none⟩ = some (.int .u64 (n : Int)) := by
    unfold World.cell?
    rw [heap_alloc_new]
    rfl
  have HL : Hid (∀ a : Nat, Calls Try.prog 21 #[.int .u64 (a : Int), .pointer (some ⟨w.heap.size, 0, none⟩)] (w.alloc (.cells #[.int .u64 (n : Int)] 22)) fun e w' => e = .returned (.int .u64 (laterK n a : Int)) ∧ w' = w.alloc (.cells #[.int .u64 (n : Int)] 22)) := Lib.hid (fun a => later_any n a _ _ q)
  have HF : Hid (∀ (a b : Nat), Calls Try.prog 13 #[.slice (some ⟨w.heap.size + 1, 0, none⟩) 2 2] ((w.alloc (.cells #[.int .u64 (n : Int)] 22)).alloc (.cells #[.int .u64 (a : Int), .int .u64 (b : Int)] 22)) fun e w' => e = .returned (.int .u64 (firstK [a, b] : Int)) ∧ Below w.heap.size w w') := Lib.hid (fun a b => by
    have h := first_two a b (w.alloc (.cells #[.int .u64 (n : Int)] 22)) _ rfl w.heap.size w HB.out (by simp)
    have e : (w.alloc (.cells #[.int .u64 (n : Int)] 22)).heap.size = w.heap.size + 1 := by simp
    rw [e] at h
    exact h)
  have hm : (n - addK f s) % s ≤ n - addK f s := Nat.mod_le _ _
  have e1 : nearK f s n = addK f s + (n - addK f s) - (n - addK f s) % s := rfl
  generalize nearK f s n = z at *
  generalize addK f s = a at *
  generalize addK z s = y at *
  have e2 : ((n - a : Nat) : Int) % (s : Int) = (((n - a) % s : Nat) : Int) := (Int.natCast_emod _ _).symm
  have p1 : 0 ≤ ((n - a : Nat) : Int) % (s : Int) := by rw [e2]; omega
  have p2 : ((n - a : Nat) : Int) % (s : Int) ≤ ((n - a : Nat) : Int) := by rw [e2]; omega
  have p3 : (a : Int) + ((n - a : Nat) : Int) ≤ 18446744073709551615 := by omega
  have HZ : Hid ((a : Int) + ((n - a : Nat) : Int) - ((n - a : Nat) : Int) % (s : Int) = (z : Int)) := Lib.hid (by rw [e2]; omega)
  generalize n - a = d at *
  clear e1 e2 hm
  go_enter Try.func15, Try.ntmps15
  go_wp2_with (first
    | (go_at_call 7; (with_reducible refine (HA.out _).mono ?_); rintro e w1 ⟨rfl, rfl⟩)
    | (go_at_call 9; (with_reducible refine (HS.out _).mono ?_); rintro e w2 ⟨rfl, rfl⟩)
    | (go_at_call 21; (try rw [HZ.out]); (with_reducible refine (HL.out _).mono ?_); rintro e w3 ⟨rfl, rfl⟩)
    | (go_at_call 7; (try rw [HZ.out]); (with_reducible refine (HA2.out _).mono ?_); rintro e w4 ⟨rfl, rfl⟩)
    | (go_at_call 21; (with_reducible refine (HL.out _).mono ?_); rintro e w5 ⟨rfl, rfl⟩)
    | ((with_reducible refine wpList_two (o := ⟨some 35, _, _, _, _, _⟩) rfl 35 rfl _ _ rfl _ _ ?_ ?_ ?_); rfl; rfl)
    | (go_at_call 13; (with_reducible refine (HF.out _ _).mono ?_); rintro e w6 ⟨rfl, hb6⟩))
  go_ret
  exact ⟨rfl, hb6⟩
theorem every_any (f s n : Nat) (hf : f < 18446744073709551616) (hs : s < 18446744073709551616) (hn : n < 18446744073709551616) (w : World) : Calls Try.prog 15 #[.int .u64 (f : Int), .int .u64 (s : Int), .int .u64 (n : Int)] w fun e w' => e = .returned (.int .u64 (everyK f s n : Int)) ∧ Below w.heap.size w w' := by
  by_cases h : s = 0
  · subst h
    have h1 : everyK f 0 n = 18446744073709551615 := by unfold everyK; rw [if_pos rfl]
    rw [h1]
    exact every_zero f n w
  · exact every_some f s n hf hs hn h w
theorem lives_any (w : World) : Calls Try.prog 6 #[] w fun e w' => e = .returned (.bool true) ∧ Below w.heap.size w w' := by
  have H1 : Hid (∀ W, Calls Try.prog 15 #[.int .u64 5, .int .u64 3, .int .u64 9] W fun e w' => e = .returned (.int .u64 11) ∧ Below W.heap.size W w') := Lib.hid (fun W => every_any 5 3 9 (by omega) (by omega) (by omega) W)
  have H2 : Hid (∀ W, Below w.heap.size w W → Calls Try.prog 15 #[.int .u64 5, .int .u64 3, .int .u64 0] W fun e w' => e = .returned (.int .u64 8) ∧ Below w.heap.size w w') := Lib.hid (fun W hW => (every_any 5 3 0 (by omega) (by omega) (by omega) W).mono (by
    rintro e w' ⟨rfl, hb⟩
    exact ⟨rfl, hW.trans (hb.mono hW.size)⟩))
  have H3 : Hid (∀ W, Calls Try.prog 7 #[.int .u64 18446744073709551615, .int .u64 1] W fun e w' => e = .returned (.int .u64 18446744073709551615) ∧ w' = W) := Lib.hid (fun W => add_any 18446744073709551615 1 (by omega) (by omega) W)
  go_enter Try.func6, Try.ntmps6
  go_wp2_with (first
    | (go_at_call 15; (with_reducible refine (H1.out _).mono ?_); rintro e w1 ⟨rfl, hb1⟩)
    | (go_at_call 15; (with_reducible refine (H2.out _ hb1).mono ?_); rintro e w2 ⟨rfl, hb2⟩)
    | (go_at_call 7; (with_reducible refine (H3.out _).mono ?_); rintro e w3 ⟨rfl, rfl⟩))
  go_ret
  exact ⟨rfl, hb2⟩
end Go.Proofs.Ytehgpnnfjgmiiaa
