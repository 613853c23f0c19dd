/- Contracts of the small functions of package sha and of its reference: rotation, f and k. Conditions: words are numbers of 32 bits. -/
import Derived.Test.YtcoiaddjfeaciaaBacka
import Derived.Laws.BitsAllLaws
namespace Go.Proofs.Ytcoiaddjfeaciaa
set_option maxRecDepth 100000
open Go.RowKit
set_option linter.unusedVariables false

/-- A word of 32 bits rotated to the left, by 1, 5 and 30. -/
def rot1 (x : Int) : Int := bits .or .u32 (x * 2 % 4294967296) (x / 2147483648)
def rot5 (x : Int) : Int := bits .or .u32 (x * 32 % 4294967296) (x / 134217728)
def rot30 (x : Int) : Int := bits .or .u32 (x * 1073741824 % 4294967296) (x / 4)
/-- f and k of a word. -/
def fI (i : Nat) (b c d : Int) : Int :=
  if i < 20 then bits .or .u32 (bits .and .u32 b c) (bits .and .u32 (bits .xor .u32 IntKind.u32.max b) d)
  else if i < 40 then bits .xor .u32 (bits .xor .u32 b c) d
  else if i < 60 then bits .or .u32 (bits .or .u32 (bits .and .u32 b c) (bits .and .u32 b d)) (bits .and .u32 c d)
  else bits .xor .u32 (bits .xor .u32 b c) d
def kI (i : Nat) : Int := if i < 20 then 1518500249 else if i < 40 then 1859775393 else if i < 60 then 2400959708 else 3395469782

theorem and31_1 : bits .and .u64 1 31 = 1 := by decide +kernel
theorem and31_5 : bits .and .u64 5 31 = 5 := by decide +kernel
theorem and31_30 : bits .and .u64 30 31 = 30 := by decide +kernel

section
variable (x : Int) (w : World)
theorem rot1_any : Calls Try.prog 92 #[.int .u32 x, .int .i64 1] w fun e w' => e = .returned (.int .u32 (rot1 x)) ∧ w = w' := by
  have e1 := and31_1
  go_enter Try.func92, Try.ntmps92
  go_wp2
  go_ret
  exact ⟨rfl, rfl⟩
theorem rot5_any : Calls Try.prog 92 #[.int .u32 x, .int .i64 5] w fun e w' => e = .returned (.int .u32 (rot5 x)) ∧ w = w' := by
  have e1 := and31_5
  go_enter Try.func92, Try.ntmps92
  go_wp2
  go_ret
  exact ⟨rfl, rfl⟩
theorem rot30_any : Calls Try.prog 92 #[.int .u32 x, .int .i64 30] w fun e w' => e = .returned (.int .u32 (rot30 x)) ∧ w = w' := by
  have e1 := and31_30
  go_enter Try.func92, Try.ntmps92
  go_wp2
  go_ret
  exact ⟨rfl, rfl⟩
theorem turned1_any : Calls Try.prog 80 #[.int .u32 x, .int .i64 1] w fun e w' => e = .returned (.int .u32 (rot1 x)) ∧ w = w' := by
  go_enter Try.func80, Try.ntmps80
  go_wp2
  go_ret
  exact ⟨rfl, rfl⟩
theorem turned5_any : Calls Try.prog 80 #[.int .u32 x, .int .i64 5] w fun e w' => e = .returned (.int .u32 (rot5 x)) ∧ w = w' := by
  go_enter Try.func80, Try.ntmps80
  go_wp2
  go_ret
  exact ⟨rfl, rfl⟩
theorem turned30_any : Calls Try.prog 80 #[.int .u32 x, .int .i64 30] w fun e w' => e = .returned (.int .u32 (rot30 x)) ∧ w = w' := by
  go_enter Try.func80, Try.ntmps80
  go_wp2
  go_ret
  exact ⟨rfl, rfl⟩
end

theorem clo_any (i : Nat) (b c d : Int) (gb gc gd : Nat) (w : World) (hi : i < 80) (hb : w.cell? ⟨gb, 0, none⟩ = some (.int .u32 b)) (hc : w.cell? ⟨gc, 0, none⟩ = some (.int .u32 c)) (hd : w.cell? ⟨gd, 0, none⟩ = some (.int .u32 d)) :
   Calls Try.prog 90 #[.int .i64 (i : Int), .pointer (some ⟨gb, 0, none⟩), .pointer (some ⟨gc, 0, none⟩), .pointer (some ⟨gd, 0, none⟩)] w fun e w' => e = .returned (.tuple #[.int .u32 (fI i b c d), .int .u32 (kI i)]) ∧ w = w' := by
  by_cases h1 : i < 20
  · simp only [fI, kI, if_pos h1]
    go_enter Try.func90, Try.ntmps90
    go_wp2
    all_goals go_ret2
    all_goals exact ⟨rfl, rfl⟩
  · by_cases h2 : i < 40
    · simp only [fI, kI, if_neg h1, if_pos h2]
      go_enter Try.func90, Try.ntmps90
      go_wp2
      all_goals go_ret2
      all_goals exact ⟨rfl, rfl⟩
    · by_cases h3 : i < 60
      · simp only [fI, kI, if_neg h1, if_neg h2, if_pos h3]
        go_enter Try.func90, Try.ntmps90
        go_wp2
        all_goals go_ret2
        all_goals exact ⟨rfl, rfl⟩
      · simp only [fI, kI, if_neg h1, if_neg h2, if_neg h3]
        go_enter Try.func90, Try.ntmps90
        go_wp2
        all_goals go_ret2
        all_goals exact ⟨rfl, rfl⟩

theorem part_any (i : Nat) (b c d : Int) (w : World) (hi : i < 80) :
   Calls Try.prog 79 #[.int .i64 (i : Int), .int .u32 b, .int .u32 c, .int .u32 d] w fun e w' => e = .returned (.tuple #[.int .u32 (fI i b c d), .int .u32 (kI i)]) ∧ w = w' := by
  by_cases h1 : i < 20
  · simp only [fI, kI, if_pos h1]
    go_enter Try.func79, Try.ntmps79
    go_wp2
    all_goals go_ret2
    all_goals exact ⟨rfl, rfl⟩
  · by_cases h2 : i < 40
    · simp only [fI, kI, if_neg h1, if_pos h2]
      go_enter Try.func79, Try.ntmps79
      go_wp2
      all_goals go_ret2
      all_goals exact ⟨rfl, rfl⟩
    · by_cases h3 : i < 60
      · simp only [fI, kI, if_neg h1, if_neg h2, if_pos h3]
        go_enter Try.func79, Try.ntmps79
        go_wp2
        all_goals go_ret2
        all_goals exact ⟨rfl, rfl⟩
      · simp only [fI, kI, if_neg h1, if_neg h2, if_neg h3]
        go_enter Try.func79, Try.ntmps79
        go_wp2
        all_goals go_ret2
        all_goals exact ⟨rfl, rfl⟩
end Go.Proofs.Ytcoiaddjfeaciaa
