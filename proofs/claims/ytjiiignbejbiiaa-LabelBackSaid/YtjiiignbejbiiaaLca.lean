/- Contracts of isCapital, isLetter, isDigit, fits of package label. No condition. -/
import Derived.Test.YtjiiignbejbiiaaPPair
import Derived.Test.YtjiiignbejbiiaaLpa
import Derived.StillTailTactics
import Derived.Great.BuildSlice
import Derived.Shelf.Abstract
import Derived.BigQuiet
namespace Go.Proofs.Ytjiiignbejbiiaa
open Go.Shelf Go.RowKit Go.Lib Go.Great
set_option maxRecDepth 100000
set_option maxHeartbeats 1000000
def capB (c : UInt8) : Bool := decide (65 ≤ c.toNat) && decide (c.toNat ≤ 90)
def letB (c : UInt8) : Bool := (decide (97 ≤ c.toNat) && decide (c.toNat ≤ 122)) || capB c
def digitB (c : UInt8) : Bool := decide (48 ≤ c.toNat) && decide (c.toNat ≤ 57)
theorem cap_any (c : UInt8) (w : World) : Calls Try.prog 42 #[.int .u8 (c.toNat : Int)] w fun e w' => e = .returned (.bool (capB c)) ∧ w' = w := by
  unfold capB
  generalize c.toNat = n
  by_cases h1 : 65 ≤ n
  · have h1' : (65 : Int) ≤ (n : Int) := by omega
    by_cases h2 : n ≤ 90
    · have h2' : (n : Int) ≤ 90 := by omega
      go_enter Try.func42, Try.ntmps42
      go_wp2
      go_ret
      simp [h1, h2]
    · have h2' : ¬ (n : Int) ≤ 90 := by omega
      go_enter Try.func42, Try.ntmps42
      go_wp2
      go_ret
      simp [h2]
  · have h1' : ¬ (65 : Int) ≤ (n : Int) := by omega
    go_enter Try.func42, Try.ntmps42
    go_wp2
    go_ret
    simp [h1]
theorem digit_any (c : UInt8) (w : World) : Calls Try.prog 51 #[.int .u8 (c.toNat : Int)] w fun e w' => e = .returned (.bool (digitB c)) ∧ w' = w := by
  unfold digitB
  generalize c.toNat = n
  by_cases h1 : 48 ≤ n
  · have h1' : (48 : Int) ≤ (n : Int) := by omega
    by_cases h2 : n ≤ 57
    · have h2' : (n : Int) ≤ 57 := by omega
      go_enter Try.func51, Try.ntmps51
      go_wp2
      go_ret
      simp [h1, h2]
    · have h2' : ¬ (n : Int) ≤ 57 := by omega
      go_enter Try.func51, Try.ntmps51
      go_wp2
      go_ret
      simp [h2]
  · have h1' : ¬ (48 : Int) ≤ (n : Int) := by omega
    go_enter Try.func51, Try.ntmps51
    go_wp2
    go_ret
    simp [h1]
theorem let_any (c : UInt8) (w : World) : Calls Try.prog 50 #[.int .u8 (c.toNat : Int)] w fun e w' => e = .returned (.bool (letB c)) ∧ w' = w := by
  have HC := Lib.hid (cap_any c w)
  unfold letB
  generalize capB c = q at HC ⊢
  generalize c.toNat = n at HC ⊢
  by_cases h1 : 97 ≤ n
  · have h1' : (97 : Int) ≤ (n : Int) := by omega
    by_cases h2 : n ≤ 122
    · have h2' : (n : Int) ≤ 122 := by omega
      go_enter Try.func50, Try.ntmps50
      go_wp2
      go_ret
      simp [h1, h2]
    · have h2' : ¬ (n : Int) ≤ 122 := by omega
      go_enter Try.func50, Try.ntmps50
      go_wp2_with (go_at_call 42; (with_reducible refine HC.out.mono ?_); rintro e w1 ⟨rfl, rfl⟩)
      go_ret
      simp [h2]
  · have h1' : ¬ (97 : Int) ≤ (n : Int) := by omega
    go_enter Try.func50, Try.ntmps50
    go_wp2_with (go_at_call 42; (with_reducible refine HC.out.mono ?_); rintro e w1 ⟨rfl, rfl⟩)
    go_ret
    simp [h1]
/-- What fits at a place, an end or none. -/
def fitsB (c : UInt8) (atEnd : Bool) : Bool := if c.toNat = 45 then !atEnd else decide (c.toNat = 95) || letB c || digitB c
theorem fits_any (c : UInt8) (b : Bool) (w : World) : Calls Try.prog 38 #[.int .u8 (c.toNat : Int), .bool b] w fun e w' => e = .returned (.bool (fitsB c b)) ∧ w' = w := by
  have HL := Lib.hid (let_any c w)
  have HD := Lib.hid (digit_any c w)
  unfold fitsB
  generalize letB c = q at HL ⊢
  generalize digitB c = r at HD ⊢
  generalize c.toNat = n at HL HD ⊢
  by_cases h1 : n = 45
  · subst h1
    cases b
    · go_enter Try.func38, Try.ntmps38
      go_wp2
      go_ret
      simp
    · go_enter Try.func38, Try.ntmps38
      go_wp2
      go_ret
      simp
  · have h1' : ¬ (n : Int) = 45 := by omega
    rw [if_neg h1]
    by_cases h2 : n = 95
    · subst h2
      go_enter Try.func38, Try.ntmps38
      go_wp2
      go_ret
      simp
    · have h2' : ¬ (n : Int) = 95 := by omega
      rw [decide_eq_false h2]
      cases q
      · cases r
        · go_enter Try.func38, Try.ntmps38
          go_wp2_with (first | (go_at_call 50; (with_reducible refine HL.out.mono ?_); rintro e w1 ⟨rfl, rfl⟩) | (go_at_call 51; (with_reducible refine HD.out.mono ?_); rintro e w1 ⟨rfl, rfl⟩))
          go_ret
          simp
        · go_enter Try.func38, Try.ntmps38
          go_wp2_with (first | (go_at_call 50; (with_reducible refine HL.out.mono ?_); rintro e w1 ⟨rfl, rfl⟩) | (go_at_call 51; (with_reducible refine HD.out.mono ?_); rintro e w1 ⟨rfl, rfl⟩))
          go_ret
          simp
      · go_enter Try.func38, Try.ntmps38
        go_wp2_with (first | (go_at_call 50; (with_reducible refine HL.out.mono ?_); rintro e w1 ⟨rfl, rfl⟩) | (go_at_call 51; (with_reducible refine HD.out.mono ?_); rintro e w1 ⟨rfl, rfl⟩))
        go_ret
        simp
end Go.Proofs.Ytjiiignbejbiiaa
