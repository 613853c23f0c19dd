/- Where a key's timer is: place of the package timers, keys are ints. Conditions: a table. -/
import Derived.Test.YtkebgcalphajhaaTab
import Derived.Defers
import Derived.Recover
import Derived.Laws.Pointers
namespace Go.Proofs.Ytkebgcalphajhaa
open Go.RowKit Go.Lib
set_option maxRecDepth 100000
set_option maxHeartbeats 400000
theorem row_max {w : World} {e k n : Nat} {v : Value} {xs : List Value} (h : RowAt w e k v n xs) : n ≤ maxLen := by
  rcases h.2 with ⟨_, rfl⟩ | ⟨_, _, cap, _, _, _, h1, h2, _⟩
  · exact Nat.zero_le _
  · omega
theorem pl_idle (p : Addr) (w : World) : CallsD Try.prog 60 #[.pointer (some p)] .returning w fun e u' w' => e = .returned (.tuple #[]) ∧ u' = .returning ∧ w' = w := by
  refine callsD_of_wpS Try.func60 rfl fun c₀ cs hu => ?_
  apply wpS_seq
  apply wpS_region
  simp [wpOpsS, go_sem, recoverD, hu, Try.ntmps60, Exit.thenS]
  refine wpS_cond (t := false) (by simp [Act.eval, Array.replicate]) ?_
  simp only [Bool.false_eq_true, if_false]
  refine wpS_of_wp (wp_skip ?_)
  cases c₀
  simp_all [bodyPostS, results, Try.results60]
def PlRel (w1 : World) (k : Int) (L : List (Int × Nat)) (ni : Value) (wr : World) : Prop := ∃ i : Nat, ni = .int .i64 (i : Int) ∧ i ≤ L.length ∧ wr = w1 ∧ hasT (L.take i) k = false
theorem hasT_snoc (P : List (Int × Nat)) (x : Int × Nat) (k : Int) : hasT (P ++ [x]) k = (hasT P k || decide (x.1 = k)) := by simp [hasT]
/-- The first one's place; -1: none. -/
def plT (L : List (Int × Nat)) (k : Int) : Int := if hasT L k = true then ((L.takeWhile (fun s => decide (s.1 ≠ k))).length : Int) else -1
theorem plT_at (L : List (Int × Nat)) (k : Int) (i : Nat) (hi : i < L.length) (h : hasT (L.take i) k = false) (h1 : L[i]!.1 = k) : plT L k = (i : Int) := by
  have hs : L = L.take i ++ L[i] :: L.drop (i + 1) := by rw [← List.drop_eq_getElem_cons hi, List.take_append_drop]
  rw [getElem!_pos L i hi] at h1
  have e1 : hasT L k = true := by
    rw [hasT_iff]
    exact ⟨L[i].2, by rw [← h1]; exact List.getElem_mem hi⟩
  unfold plT
  rw [if_pos e1]
  have e2 : L.takeWhile (fun s => decide (s.1 ≠ k)) = L.take i := by
    conv => lhs; rw [hs]
    rw [List.takeWhile_append_of_pos, List.takeWhile_cons_of_neg (by simp [h1]), List.append_nil]
    intro x hx
    refine decide_eq_true fun e => ?_
    have : hasT (L.take i) k = true := (hasT_iff _ k).2 ⟨x.2, by rw [← e]; exact hx⟩
    rw [h] at this
    cases this
  rw [e2, List.length_take, Nat.min_eq_left (by omega)]
theorem place_any (g most : Nat) (v : Value) (L : List (Int × Nat)) (k : Int) (w : World) (h : Tab w g most v L) : Calls Try.prog 36 #[.pointer (some ⟨g, 0, none⟩), Value.int .i64 k] w fun e w' => e = .returned (.int .i64 (plT L k)) ∧ Below w.heap.size w w' := by
  have hmf : ∀ (fn : Fn) (first cap : Array Value) (w : World), (Instr.makeFunc fn first cap).run Try.prog w = .ok (.func fn first cap) w := fun _ _ _ _ => rfl
  obtain ⟨w1, hw1⟩ : ∃ w1, w1 = w.alloc (.cells #[.int .i64 0] 3) := ⟨_, rfl⟩
  have hb1 : Below w.heap.size w w1 := by rw [hw1]; exact (Below.refl _ w).alloc (Nat.le_refl _) _
  have h1 := h.bel hb1
  have q := Obj.c1 h1
  have qf := Obj.fr h1 1
  have hgw : w1.heap[w.heap.size]? = some (.cells #[.int .i64 0] 3 (0, 0)) := by rw [hw1]; exact heap_alloc_new w _
  have c0 : w1.cell? ⟨w.heap.size, 0, none⟩ = some (.int .i64 0) := by unfold World.cell?; rw [hgw]; rfl
  have z0 : w1.frozen? ⟨w.heap.size, 0, none⟩ = false := by unfold World.frozen?; rw [hgw]; simp
  have hmax : L.length ≤ 9223372036854775807 := Nat.le_trans (row_max (Obj.row h)) (by decide)
  have R0 : Hid (PlRel w1 k L (.int .i64 0) w1) := Lib.hid ⟨0, rfl, Nat.zero_le _, rfl, rfl⟩
  obtain ⟨A, c, rfl, hn⟩ := (Obj.row h).form
  clear hb1 h hgw
  subst hw1
  go_enter_defers Try.func36, Try.ntmps36
  go_wp2_with (first | fail)
  go_loopw [12] (PlRel (w.alloc (.cells #[.int .i64 0] 3)) k L) (fun i _ => L.length - (RowKit.intOf i).toNat)
  case atStart => exact R0.out
  case round =>
    obtain ⟨i, rfl, hi, rfl, hP⟩ := hrel
    by_cases hlt : i < L.length
    · have hlt' : (i : Int) < (L.length : Int) := by omega
      obtain ⟨b, off, cc, e0, hnn⟩ := (Obj.row h1).filled (by omega)
      injection e0 with e1 _ e2
      subst e1 e2
      obtain ⟨f1, f2⟩ := flatT_at L i hlt
      have q1 := (Obj.row h1).cell _ _ f1
      by_cases hk : L[i]!.1 = k
      · have HP := Lib.hid (plT_at L k i hlt hP hk)
        rw [hk] at q1
        clear h1 R0
        generalize L.length = n at *
        go_wp2_with (first | fail)
        refine leaves_cons (f := 60) (args := #[.pointer (some ⟨w.heap.size, 0, none⟩)]) (by simp) (by simp [go_sem]) ?_
        refine (pl_idle ⟨w.heap.size, 0, none⟩ _).mono ?_
        rintro e u' w'' ⟨rfl, rfl, rfl⟩
        simp [Leaves, settle, results, Try.results36, go_sem, HP.out]
        exact (Below.refl _ w).alloc (Nat.le_refl _) _
      · have hk' := hk
        have HREL : Hid (PlRel (w.alloc (.cells #[.int .i64 0] 3)) k L (.int .i64 ((i : Int) + 1)) (w.alloc (.cells #[.int .i64 0] 3))) := Lib.hid ⟨i + 1, by go_num, by omega, rfl, by
          rw [List.take_add_one, List.getElem?_eq_getElem hlt]
          rw [getElem!_pos L i hlt] at hk
          show hasT (L.take i ++ [L[i]]) k = false
          rw [hasT_snoc, hP, decide_eq_false hk]
          rfl⟩
        have hwr : IntKind.i64.wrap ((i : Int) + 1) = (i : Int) + 1 := by rw [IntKind.wrap_i64]; omega
        clear h1 R0
        generalize L[i]!.1 = x at *
        generalize L.length = n at *
        go_wp2_with (first | fail)
        go_roundw
        case rel => exact HREL.out
        case measure => simp [RowKit.intOf]; omega
    · obtain rfl : i = L.length := by omega
      have hlt' : ¬ (L.length : Int) < (L.length : Int) := by omega
      have HP : Hid (plT L k = -1) := Lib.hid (by
        rw [List.take_of_length_le (Nat.le_refl _)] at hP
        unfold plT
        rw [if_neg (by rw [hP]; simp)])
      clear h1 R0
      generalize L.length = n at *
      go_wp2_with (first | fail)
      refine leaves_cons (f := 60) (args := #[.pointer (some ⟨w.heap.size, 0, none⟩)]) (by simp) (by simp [go_sem]) ?_
      refine (pl_idle ⟨w.heap.size, 0, none⟩ _).mono ?_
      rintro e u' w'' ⟨rfl, rfl, rfl⟩
      simp [Leaves, settle, results, Try.results36, go_sem, HP.out]
      exact (Below.refl _ w).alloc (Nat.le_refl _) _
end Go.Proofs.Ytkebgcalphajhaa
