/- Tables of timers in memory, keys are texts; New, isMade, Len of the package timers. Conditions: the table is made. -/
import Derived.Test.YtkebgcalphajhaaTga
import Derived.Test.YtkebgcalphajhaaTaa
namespace Go.Proofs.Ytkebgcalphajhaa.Str
open Go.RowKit Go.Lib Go.Proofs.Ytkebgcalphajhaa
set_option maxRecDepth 100000
set_option maxHeartbeats 400000
def encT (t : ByteArray × Nat) : List Value := [Value.string t.1, .int .u64 (t.2 : Int)]
def flatT (L : List (ByteArray × Nat)) : List Value := L.flatMap encT
theorem flatT_length (L : List (ByteArray × Nat)) : (flatT L).length = L.length * 2 := by
  induction L with
  | nil => rfl
  | cons x L ih => simp only [flatT, List.flatMap_cons, List.length_append, encT, List.length_cons, List.length_nil] at ih ⊢; omega
theorem flatT_append (P D : List (ByteArray × Nat)) : flatT (P ++ D) = flatT P ++ flatT D := by simp [flatT]
theorem flatT_cons (x : ByteArray × Nat) (D : List (ByteArray × Nat)) : flatT (x :: D) = encT x ++ flatT D := by simp [flatT]
theorem flatT_one (L : List (ByteArray × Nat)) : ∀ u ∈ flatT L, u.oneCell' = true := by
  intro u hu
  obtain ⟨x, _, hx⟩ := List.mem_flatMap.1 hu
  simp only [encT, List.mem_cons, List.not_mem_nil, or_false] at hx
  rcases hx with rfl | rfl <;> rfl
theorem flatT_at (L : List (ByteArray × Nat)) : ∀ i, i < L.length → (flatT L)[i * 2]? = some (Value.string L[i]!.1) ∧ (flatT L)[i * 2 + 1]? = some (.int .u64 (L[i]!.2 : Int)) := by
  induction L with
  | nil => intro i h; exact absurd h (Nat.not_lt_zero _)
  | cons x L ih =>
    intro i h
    rw [flatT_cons]
    cases i with
    | zero => exact ⟨rfl, rfl⟩
    | succ i =>
      have := ih i (Nat.lt_of_succ_lt_succ h)
      rw [show (x :: L)[i + 1]! = L[i]! from by simp [getElem!_def]]
      rw [show (i + 1) * 2 = i * 2 + 2 by omega]
      exact this
theorem rowTm : RowT 97 103 2 := by
  obtain ⟨i, hi, h1, h2, h3⟩ := info_parts (P := Try.prog) (e := 103) (z := .agg #[Value.string default, .int .u64 0]) (size := 2) (bytes := 24) (by kernel_rfl)
  exact ⟨by kernel_rfl, ⟨i, _, hi, h1, h2, by omega, rfl, fun u hu => by
    have hu : u ∈ [Value.string default, Value.int .u64 0] := hu
    simp only [List.mem_cons, List.not_mem_nil, or_false] at hu
    rcases hu with rfl | rfl <;> rfl⟩, by omega⟩
/-- A table in block g with at most most timers, of which L are there. -/
def Tab (w : World) (g most : Nat) (v : Value) (L : List (ByteArray × Nat)) : Prop := Obj 99 103 2 w g most v L.length (flatT L)
theorem tmade_yes (g most : Nat) (h0 : 0 < most) (w : World) (q : w.cell? ⟨g, 0, none⟩ = some (.int .i64 (most : Int))) : Calls Try.prog 53 #[.pointer (some ⟨g, 0, none⟩)] w fun e w' => e = .returned (.bool true) ∧ w' = w := by
  have h1 : (0 : Int) < (most : Int) := by omega
  go_enter Try.func53, Try.ntmps53
  go_wp2
  go_ret
  exact ⟨rfl, rfl⟩
theorem tnew_yes (most : Nat) (h0 : 0 < most) (h1 : most ≤ 65536) (w : World) : Calls Try.prog 31 #[.int .i64 (most : Int)] w fun e w' => e = .returned (.pointer (some ⟨w.heap.size, 0, none⟩)) ∧ w' = w.alloc (.cells #[.int .i64 (most : Int), .slice none 0 0] 99) := by
  have h2 : ¬ (most : Int) < 1 := by omega
  have h3 : ¬ (most : Int) > 65536 := by omega
  go_enter Try.func31, Try.ntmps31
  go_wp2
  go_ret
  exact ⟨rfl, rfl⟩
theorem tnew_no (z : Int) (h : z < 1 ∨ 65536 < z) (w : World) : Calls Try.prog 31 #[.int .i64 z] w fun e w' => e = .returned (.pointer none) ∧ w' = w := by
  rcases h with h | h
  · go_enter Try.func31, Try.ntmps31
    go_wp2
    go_ret
    exact ⟨rfl, rfl⟩
  · have h2 : ¬ z < 1 := by omega
    go_enter Try.func31, Try.ntmps31
    go_wp2
    go_ret
    exact ⟨rfl, rfl⟩
theorem tab_new (most : Nat) (w : World) : Tab (w.alloc (.cells #[.int .i64 (most : Int), .slice none 0 0] 99)) w.heap.size most (.slice none 0 0) [] := ⟨heap_alloc_new w _, RowAt.nil _ 103 2, fun h => by cases h⟩
theorem tlen_any (g most : Nat) (h0 : 0 < most) (v : Value) (L : List (ByteArray × Nat)) (w : World) (h : Tab w g most v L) : Calls Try.prog 34 #[.pointer (some ⟨g, 0, none⟩)] w fun e w' => e = .returned (.int .i64 (L.length : Int)) ∧ w' = w := by
  have HM := Lib.hid (tmade_yes g most h0 w (Obj.c0 h))
  obtain ⟨A, c, rfl, hn⟩ := (Obj.row h).form
  have q := Obj.c1 h
  clear h
  generalize L.length = n at *
  go_enter Try.func34, Try.ntmps34
  go_wp2_with (go_at_call 53; (with_reducible refine HM.out.mono ?_); rintro e w1 ⟨rfl, rfl⟩)
  go_ret
  exact ⟨rfl, rfl⟩
end Go.Proofs.Ytkebgcalphajhaa.Str
