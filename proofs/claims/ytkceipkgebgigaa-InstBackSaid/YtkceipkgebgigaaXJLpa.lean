/- Names and their parts: plain: splitting at points, joining, good parts and names, folding. No condition. Contracts of isCapital, isLetter, isDigit, fits of package label. No condition. -/
import Derived.Test.YtkceipkgebgigaaProg
import Derived.Lib.Join
import Derived.Test.YtkceipkgebgigaaXJPWords
import Derived.StillTailTactics
import Derived.Great.BuildSlice
import Derived.Shelf.Abstract
import Derived.BigQuiet
section
namespace Go.Proofs.Ytkceipkgebgigaa
open Go.Lib
set_option maxRecDepth 100000
/-- The texts between points. -/
def splitD : List UInt8 → List (List UInt8)
  | [] => [[]]
  | c :: r => if c = 46 then [] :: splitD r else match splitD r with
    | [] => [[c]]
    | h :: t => (c :: h) :: t
theorem splitD_ne (l : List UInt8) : splitD l ≠ [] := by
  cases l with
  | nil => simp [splitD]
  | cons c r =>
    rw [splitD]
    split
    · simp
    · split <;> simp
theorem splitD_pos (l : List UInt8) : 0 < (splitD l).length := List.length_pos_iff.2 (splitD_ne l)
theorem splitD_none (a : List UInt8) (h : ∀ c ∈ a, c ≠ 46) : splitD a = [a] := by
  induction a with
  | nil => rfl
  | cons c a ih =>
    rw [splitD, if_neg (h c (by simp)), ih (fun x hx => h x (by simp [hx]))]
theorem splitD_dot (a r : List UInt8) (h : ∀ c ∈ a, c ≠ 46) : splitD (a ++ 46 :: r) = a :: splitD r := by
  induction a with
  | nil => rw [List.nil_append, splitD, if_pos rfl]
  | cons c a ih => rw [List.cons_append, splitD, if_neg (h c (by simp)), ih (fun x hx => h x (by simp [hx]))]
/-- Joined by points. -/
def joinD : List (List UInt8) → List UInt8
  | [] => []
  | [x] => x
  | x :: y :: r => x ++ 46 :: joinD (y :: r)
theorem joinD_cons {x : List UInt8} {r : List (List UInt8)} (h : r ≠ []) : joinD (x :: r) = x ++ 46 :: joinD r := by
  cases r with
  | nil => exact absurd rfl h
  | cons y r => rfl
theorem joinD_split (l : List UInt8) : joinD (splitD l) = l := by
  induction l with
  | nil => rfl
  | cons c r ih =>
    rw [splitD]
    split
    · rename_i h
      subst h
      rw [joinD_cons (splitD_ne r), ih]
      rfl
    · split
      · rename_i he
        exact absurd he (splitD_ne r)
      · rename_i h t he
        rw [he] at ih
        cases t with
        | nil => simp only [joinD] at ih ⊢; rw [ih]
        | cons y t => rw [joinD_cons (by simp)] at ih ⊢; rw [← ih]; rfl
theorem splitD_length_le (l : List UInt8) : (splitD l).length ≤ l.length + 1 := by
  induction l with
  | nil => simp [splitD]
  | cons c r ih =>
    rw [splitD]
    split
    · simp; omega
    · split
      · simp
      · rename_i h t he
        rw [he] at ih
        simp at ih ⊢
        omega
/-- How many bytes parts have, with one byte more for each. -/
def sizeD (L : List (List UInt8)) : Nat := (L.map fun p => p.length + 1).sum
theorem sizeD_cons (x : List UInt8) (r : List (List UInt8)) : sizeD (x :: r) = x.length + 1 + sizeD r := by simp [sizeD]
theorem sizeD_append (a b : List (List UInt8)) : sizeD (a ++ b) = sizeD a + sizeD b := by simp [sizeD]
theorem joinD_length : ∀ (L : List (List UInt8)), L ≠ [] → (joinD L).length + 1 = sizeD L
  | [], h => absurd rfl h
  | [x], _ => by simp [joinD, sizeD]
  | x :: y :: r, _ => by
    rw [joinD_cons (by simp), sizeD_cons, ← joinD_length (y :: r) (by simp)]
    simp; omega
theorem sizeD_split (l : List UInt8) : sizeD (splitD l) = l.length + 1 := by rw [← joinD_length _ (splitD_ne l), joinD_split]
/-- A letter, a digit, a hyphen, or a low line. -/
def nameB (c : UInt8) : Bool := (97 ≤ c.toNat && c.toNat ≤ 122) || (65 ≤ c.toNat && c.toNat ≤ 90) || (48 ≤ c.toNat && c.toNat ≤ 57) || c.toNat == 45 || c.toNat == 95
/-- A part. -/
def partL (p : List UInt8) : Bool := decide (1 ≤ p.length ∧ p.length ≤ 63) && p.all nameB && decide (p[0]! ≠ 45 ∧ p[p.length - 1]! ≠ 45)
theorem partL_iff (p : List UInt8) : partL p = true ↔ (1 ≤ p.length ∧ p.length ≤ 63) ∧ (∀ c ∈ p, nameB c = true) ∧ p[0]! ≠ 45 ∧ p[p.length - 1]! ≠ 45 := by
  rw [partL, Bool.and_eq_true, Bool.and_eq_true, decide_eq_true_iff, decide_eq_true_iff, List.all_eq_true, and_assoc]
/-- A name. -/
def goodL (s : List UInt8) : Bool := (splitD s).all partL && decide (s.length ≤ 253)
theorem goodL_iff (s : List UInt8) : goodL s = true ↔ (∀ p ∈ splitD s, partL p = true) ∧ s.length ≤ 253 := by rw [goodL, Bool.and_eq_true, List.all_eq_true, decide_eq_true_iff]
/-- A small letter for a capital. -/
def foldC (c : UInt8) : UInt8 := if 65 ≤ c.toNat ∧ c.toNat ≤ 90 then c + 32 else c
def foldL (s : List UInt8) : List UInt8 := s.map foldC
theorem foldL_length (s : List UInt8) : (foldL s).length = s.length := by simp [foldL]
theorem foldC_foldC (c : UInt8) : foldC (foldC c) = foldC c := by
  have h := UInt8.toNat_lt c
  rw [foldC, foldC]
  by_cases h1 : 65 ≤ c.toNat ∧ c.toNat ≤ 90
  · rw [if_pos h1, if_neg]
    rw [UInt8.toNat_add]
    simp
    omega
  · rw [if_neg h1, if_neg h1]
theorem foldL_foldL (s : List UInt8) : foldL (foldL s) = foldL s := by simp [foldL, foldC_foldC]
end Go.Proofs.Ytkceipkgebgigaa
end
section
namespace Go.Proofs.Ytkceipkgebgigaa
open Go.Shelf Go.RowKit Go.Lib Go.Great
set_option maxRecDepth 100000
set_option maxHeartbeats 1000000
def capB (c : UInt8) : Bool := decide (65 ≤ c.toNat) && decide (c.toNat ≤ 90)
def letB (c : UInt8) : Bool := (decide (97 ≤ c.toNat) && decide (c.toNat ≤ 122)) || capB c
def digitB (c : UInt8) : Bool := decide (48 ≤ c.toNat) && decide (c.toNat ≤ 57)
theorem cap_any (c : UInt8) (w : World) : Calls Try.prog 109 #[.int .u8 (c.toNat : Int)] w fun e w' => e = .returned (.bool (capB c)) ∧ w' = w := by
  unfold capB
  generalize c.toNat = n
  by_cases h1 : 65 ≤ n
  · have h1' : (65 : Int) ≤ (n : Int) := by omega
    by_cases h2 : n ≤ 90
    · have h2' : (n : Int) ≤ 90 := by omega
      go_enter Try.func109, Try.ntmps109
      go_wp2
      go_ret
      simp [h1, h2]
    · have h2' : ¬ (n : Int) ≤ 90 := by omega
      go_enter Try.func109, Try.ntmps109
      go_wp2
      go_ret
      simp [h2]
  · have h1' : ¬ (65 : Int) ≤ (n : Int) := by omega
    go_enter Try.func109, Try.ntmps109
    go_wp2
    go_ret
    simp [h1]
theorem digit_any (c : UInt8) (w : World) : Calls Try.prog 122 #[.int .u8 (c.toNat : Int)] w fun e w' => e = .returned (.bool (digitB c)) ∧ w' = w := by
  unfold digitB
  generalize c.toNat = n
  by_cases h1 : 48 ≤ n
  · have h1' : (48 : Int) ≤ (n : Int) := by omega
    by_cases h2 : n ≤ 57
    · have h2' : (n : Int) ≤ 57 := by omega
      go_enter Try.func122, Try.ntmps122
      go_wp2
      go_ret
      simp [h1, h2]
    · have h2' : ¬ (n : Int) ≤ 57 := by omega
      go_enter Try.func122, Try.ntmps122
      go_wp2
      go_ret
      simp [h2]
  · have h1' : ¬ (48 : Int) ≤ (n : Int) := by omega
    go_enter Try.func122, Try.ntmps122
    go_wp2
    go_ret
    simp [h1]
theorem let_any (c : UInt8) (w : World) : Calls Try.prog 121 #[.int .u8 (c.toNat : Int)] w fun e w' => e = .returned (.bool (letB c)) ∧ w' = w := by
  have HC := Lib.hid (cap_any c w)
  unfold letB
  generalize capB c = q at HC ⊢
  generalize c.toNat = n at HC ⊢
  by_cases h1 : 97 ≤ n
  · have h1' : (97 : Int) ≤ (n : Int) := by omega
    by_cases h2 : n ≤ 122
    · have h2' : (n : Int) ≤ 122 := by omega
      go_enter Try.func121, Try.ntmps121
      go_wp2
      go_ret
      simp [h1, h2]
    · have h2' : ¬ (n : Int) ≤ 122 := by omega
      go_enter Try.func121, Try.ntmps121
      go_wp2_with (go_at_call 109; (with_reducible refine HC.out.mono ?_); rintro e w1 ⟨rfl, rfl⟩)
      go_ret
      simp [h2]
  · have h1' : ¬ (97 : Int) ≤ (n : Int) := by omega
    go_enter Try.func121, Try.ntmps121
    go_wp2_with (go_at_call 109; (with_reducible refine HC.out.mono ?_); rintro e w1 ⟨rfl, rfl⟩)
    go_ret
    simp [h1]
/-- What fits at a place, an end or none. -/
def fitsB (c : UInt8) (atEnd : Bool) : Bool := if c.toNat = 45 then !atEnd else decide (c.toNat = 95) || letB c || digitB c
theorem fits_any (c : UInt8) (b : Bool) (w : World) : Calls Try.prog 118 #[.int .u8 (c.toNat : Int), .bool b] w fun e w' => e = .returned (.bool (fitsB c b)) ∧ w' = w := by
  have HL := Lib.hid (let_any c w)
  have HD := Lib.hid (digit_any c w)
  unfold fitsB
  generalize letB c = q at HL ⊢
  generalize digitB c = r at HD ⊢
  generalize c.toNat = n at HL HD ⊢
  by_cases h1 : n = 45
  · subst h1
    cases b
    · go_enter Try.func118, Try.ntmps118
      go_wp2
      go_ret
      simp
    · go_enter Try.func118, Try.ntmps118
      go_wp2
      go_ret
      simp
  · have h1' : ¬ (n : Int) = 45 := by omega
    rw [if_neg h1]
    by_cases h2 : n = 95
    · subst h2
      go_enter Try.func118, Try.ntmps118
      go_wp2
      go_ret
      simp
    · have h2' : ¬ (n : Int) = 95 := by omega
      rw [decide_eq_false h2]
      cases q
      · cases r
        · go_enter Try.func118, Try.ntmps118
          go_wp2_with (first | (go_at_call 121; (with_reducible refine HL.out.mono ?_); rintro e w1 ⟨rfl, rfl⟩) | (go_at_call 122; (with_reducible refine HD.out.mono ?_); rintro e w1 ⟨rfl, rfl⟩))
          go_ret
          simp
        · go_enter Try.func118, Try.ntmps118
          go_wp2_with (first | (go_at_call 121; (with_reducible refine HL.out.mono ?_); rintro e w1 ⟨rfl, rfl⟩) | (go_at_call 122; (with_reducible refine HD.out.mono ?_); rintro e w1 ⟨rfl, rfl⟩))
          go_ret
          simp
      · go_enter Try.func118, Try.ntmps118
        go_wp2_with (first | (go_at_call 121; (with_reducible refine HL.out.mono ?_); rintro e w1 ⟨rfl, rfl⟩) | (go_at_call 122; (with_reducible refine HD.out.mono ?_); rintro e w1 ⟨rfl, rfl⟩))
        go_ret
        simp
end Go.Proofs.Ytkceipkgebgigaa
end
