/- Names and their parts: plain: splitting at points, joining, good parts and names, folding. No condition. Contracts of isCapital, isLetter, isDigit, fits of package label. No condition. -/
import Derived.Lib.Join
import Derived.Test.YtjiiignbejbiiaaXPWords
import Derived.StillTailTactics
import Derived.Great.BuildSlice
import Derived.Shelf.Abstract
import Derived.BigQuiet
section
namespace Go.Proofs.Ytjiiignbejbiiaa
open Go.Lib
set_option maxRecDepth 100000
/-- The texts between points. -/
def splitD : List UInt8 → List (List UInt8)
  | [] => [[]]
  | c :: r => if c = 46 then [] :: splitD r else match splitD r with
    | [] => [[c]]
    | h :: t => (c :: h) :: t
theorem splitD_ne (l : List UInt8) : splitD l ≠ [] := by
  cases l with
  | nil => simp [splitD]
  | cons c r =>
    rw [splitD]
    split
    · simp
    · split <;> simp
theorem splitD_pos (l : List UInt8) : 0 < (splitD l).length := List.length_pos_iff.2 (splitD_ne l)
theorem splitD_none (a : List UInt8) (h : ∀ c ∈ a, c ≠ 46) : splitD a = [a] := by
  induction a with
  | nil => rfl
  | cons c a ih =>
    rw [splitD, if_neg (h c (by simp)), ih (fun x hx => h x (by simp [hx]))]
theorem splitD_dot (a r : List UInt8) (h : ∀ c ∈ a, c ≠ 46) : splitD (a ++ 46 :: r) = a :: splitD r := by
  induction a with
  | nil => rw [List.nil_append, splitD, if_pos rfl]
  | cons c a ih => rw [List.cons_append, splitD, if_neg (h c (by simp)), ih (fun x hx => h x (by simp [hx]))]
theorem splitD_mem {l p : List UInt8} (hp : p ∈ splitD l) : ∀ c ∈ p, c ≠ 46 ∧ c ∈ l := by
  induction l generalizing p with
  | nil => simp [splitD] at hp; simp [hp]
  | cons c r ih =>
    rw [splitD] at hp
    split at hp
    · rename_i hc
      rcases List.mem_cons.1 hp with rfl | hp
      · intro x hx; cases hx
      · intro x hx
        exact ⟨(ih hp x hx).1, by simp [(ih hp x hx).2]⟩
    · rename_i hc
      split at hp
      · rename_i he
        exact absurd he (splitD_ne r)
      · rename_i h t he
        rcases List.mem_cons.1 hp with rfl | hp
        · intro x hx
          rcases List.mem_cons.1 hx with rfl | hx
          · exact ⟨hc, by simp⟩
          · exact ⟨(ih (p := h) (by simp [he]) x hx).1, by simp [(ih (p := h) (by simp [he]) x hx).2]⟩
        · intro x hx
          exact ⟨(ih (p := p) (by simp [he, hp]) x hx).1, by simp [(ih (p := p) (by simp [he, hp]) x hx).2]⟩
/-- Joined by points. -/
def joinD : List (List UInt8) → List UInt8
  | [] => []
  | [x] => x
  | x :: y :: r => x ++ 46 :: joinD (y :: r)
theorem joinD_cons {x : List UInt8} {r : List (List UInt8)} (h : r ≠ []) : joinD (x :: r) = x ++ 46 :: joinD r := by
  cases r with
  | nil => exact absurd rfl h
  | cons y r => rfl
theorem joinD_lib (L : List (List UInt8)) : Lib.join L [46] = joinD L := by
  cases L with
  | nil => rfl
  | cons x r =>
    induction r generalizing x with
    | nil => rw [Lib.join_one]; rfl
    | cons y r ih =>
      rw [joinD_cons (by simp), ← ih y, Lib.join_cons, Lib.join_cons]
      simp [Lib.joinTail]
theorem joinD_split (l : List UInt8) : joinD (splitD l) = l := by
  induction l with
  | nil => rfl
  | cons c r ih =>
    rw [splitD]
    split
    · rename_i h
      subst h
      rw [joinD_cons (splitD_ne r), ih]
      rfl
    · split
      · rename_i he
        exact absurd he (splitD_ne r)
      · rename_i h t he
        rw [he] at ih
        cases t with
        | nil => simp only [joinD] at ih ⊢; rw [ih]
        | cons y t => rw [joinD_cons (by simp)] at ih ⊢; rw [← ih]; rfl
theorem splitD_join : ∀ (L : List (List UInt8)), L ≠ [] → (∀ p ∈ L, ∀ c ∈ p, c ≠ 46) → splitD (joinD L) = L
  | [], h, _ => absurd rfl h
  | [x], _, h => by rw [joinD, splitD_none x (h x (by simp))]
  | x :: y :: r, _, h => by
    rw [joinD_cons (by simp), splitD_dot _ _ (h x (by simp)), splitD_join (y :: r) (by simp) (fun p hp => h p (by simp [List.mem_cons.1 hp]))]
theorem splitD_length_le (l : List UInt8) : (splitD l).length ≤ l.length + 1 := by
  induction l with
  | nil => simp [splitD]
  | cons c r ih =>
    rw [splitD]
    split
    · simp; omega
    · split
      · simp
      · rename_i h t he
        rw [he] at ih
        simp at ih ⊢
        omega
/-- How many bytes parts have, with one byte more for each. -/
def sizeD (L : List (List UInt8)) : Nat := (L.map fun p => p.length + 1).sum
theorem sizeD_nil : sizeD [] = 0 := rfl
theorem sizeD_cons (x : List UInt8) (r : List (List UInt8)) : sizeD (x :: r) = x.length + 1 + sizeD r := by simp [sizeD]
theorem sizeD_append (a b : List (List UInt8)) : sizeD (a ++ b) = sizeD a + sizeD b := by simp [sizeD]
theorem joinD_length : ∀ (L : List (List UInt8)), L ≠ [] → (joinD L).length + 1 = sizeD L
  | [], h => absurd rfl h
  | [x], _ => by simp [joinD, sizeD]
  | x :: y :: r, _ => by
    rw [joinD_cons (by simp), sizeD_cons, ← joinD_length (y :: r) (by simp)]
    simp; omega
theorem sizeD_split (l : List UInt8) : sizeD (splitD l) = l.length + 1 := by rw [← joinD_length _ (splitD_ne l), joinD_split]
/-- A letter, a digit, a hyphen, or a low line. -/
def nameB (c : UInt8) : Bool := (97 ≤ c.toNat && c.toNat ≤ 122) || (65 ≤ c.toNat && c.toNat ≤ 90) || (48 ≤ c.toNat && c.toNat ≤ 57) || c.toNat == 45 || c.toNat == 95
/-- A part. -/
def partL (p : List UInt8) : Bool := decide (1 ≤ p.length ∧ p.length ≤ 63) && p.all nameB && decide (p[0]! ≠ 45 ∧ p[p.length - 1]! ≠ 45)
theorem partL_iff (p : List UInt8) : partL p = true ↔ (1 ≤ p.length ∧ p.length ≤ 63) ∧ (∀ c ∈ p, nameB c = true) ∧ p[0]! ≠ 45 ∧ p[p.length - 1]! ≠ 45 := by
  rw [partL, Bool.and_eq_true, Bool.and_eq_true, decide_eq_true_iff, decide_eq_true_iff, List.all_eq_true, and_assoc]
theorem partL_len {p : List UInt8} (h : partL p = true) : 1 ≤ p.length ∧ p.length ≤ 63 := ((partL_iff p).1 h).1
theorem nameB_dot {c : UInt8} (h : nameB c = true) : c ≠ 46 := by rintro rfl; exact absurd h (by decide)
theorem partL_dot {p : List UInt8} (h : partL p = true) : ∀ c ∈ p, c ≠ 46 := fun c hc => nameB_dot (((partL_iff p).1 h).2.1 c hc)
/-- A name. -/
def goodL (s : List UInt8) : Bool := (splitD s).all partL && decide (s.length ≤ 253)
theorem goodL_iff (s : List UInt8) : goodL s = true ↔ (∀ p ∈ splitD s, partL p = true) ∧ s.length ≤ 253 := by rw [goodL, Bool.and_eq_true, List.all_eq_true, decide_eq_true_iff]
/-- A small letter for a capital. -/
def foldC (c : UInt8) : UInt8 := if 65 ≤ c.toNat ∧ c.toNat ≤ 90 then c + 32 else c
def foldL (s : List UInt8) : List UInt8 := s.map foldC
theorem foldL_length (s : List UInt8) : (foldL s).length = s.length := by simp [foldL]
theorem foldC_dot (c : UInt8) : foldC c = 46 ↔ c = 46 := by
  rw [foldC]
  split
  · rename_i h
    constructor
    · intro e
      have := congrArg UInt8.toNat e
      rw [UInt8.toNat_add] at this
      simp at this
      omega
    · rintro rfl
      exact absurd h (by decide)
  · exact Iff.rfl
theorem foldC_foldC (c : UInt8) : foldC (foldC c) = foldC c := by
  have h := UInt8.toNat_lt c
  rw [foldC, foldC]
  by_cases h1 : 65 ≤ c.toNat ∧ c.toNat ≤ 90
  · rw [if_pos h1, if_neg]
    rw [UInt8.toNat_add]
    simp
    omega
  · rw [if_neg h1, if_neg h1]
theorem foldL_foldL (s : List UInt8) : foldL (foldL s) = foldL s := by simp [foldL, foldC_foldC]
theorem splitD_fold (s : List UInt8) : splitD (foldL s) = (splitD s).map foldL := by
  induction s with
  | nil => rfl
  | cons c r ih =>
    rw [show foldL (c :: r) = foldC c :: foldL r from rfl, splitD, splitD, ih]
    by_cases hc : c = 46
    · rw [if_pos hc, if_pos ((foldC_dot c).2 hc)]
      rfl
    · rw [if_neg hc, if_neg (fun h => hc ((foldC_dot c).1 h))]
      cases splitD r with
      | nil => rfl
      | cons h t => rfl
theorem nameB_fold (c : UInt8) : nameB (foldC c) = nameB c := by
  have h := UInt8.toNat_lt c
  by_cases h1 : 65 ≤ c.toNat ∧ c.toNat ≤ 90
  · have e : (foldC c).toNat = c.toNat + 32 := by
      rw [foldC, if_pos h1, UInt8.toNat_add]
      simp
      omega
    rw [Bool.eq_iff_iff]
    simp only [nameB, e, Bool.or_eq_true, Bool.and_eq_true, decide_eq_true_iff, beq_iff_eq]
    omega
  · rw [foldC, if_neg h1]
theorem foldC_45 (c : UInt8) : foldC c = 45 ↔ c = 45 := by
  rw [foldC]
  split
  · rename_i h
    constructor
    · intro e
      have := congrArg UInt8.toNat e
      rw [UInt8.toNat_add] at this
      simp at this
      omega
    · rintro rfl
      exact absurd h (by decide)
  · exact Iff.rfl
theorem foldL_get (p : List UInt8) (i : Nat) (hi : i < p.length) : (foldL p)[i]! = foldC p[i]! := by
  rw [getElem!_pos (foldL p) i (by simpa [foldL] using hi), getElem!_pos p i hi]
  simp [foldL]
theorem partL_fold (p : List UInt8) : partL (foldL p) = partL p := by
  rw [Bool.eq_iff_iff, partL_iff, partL_iff, foldL_length]
  refine and_congr_right fun hl => and_congr ?_ (and_congr ?_ ?_)
  · simp [foldL, nameB_fold]
  · rw [foldL_get p 0 (by omega), Ne, foldC_45]
  · rw [foldL_get p _ (by omega), Ne, foldC_45]
theorem goodL_fold (s : List UInt8) : goodL (foldL s) = goodL s := by
  rw [Bool.eq_iff_iff, goodL_iff, goodL_iff, splitD_fold, foldL_length]
  simp [partL_fold]
/-- Under a name. -/
def underL (s z : List UInt8) : Bool := goodL s && goodL z && (splitD (foldL z)).isSuffixOf (splitD (foldL s))
theorem underL_iff (s z : List UInt8) : underL s z = true ↔ goodL s = true ∧ goodL z = true ∧ splitD (foldL z) <:+ splitD (foldL s) := by
  rw [underL, Bool.and_eq_true, Bool.and_eq_true, List.isSuffixOf_iff_suffix, and_assoc]
theorem under_self (s : List UInt8) : underL s s = goodL s := by
  rw [Bool.eq_iff_iff, underL_iff]
  exact ⟨fun h => h.1, fun h => ⟨h, h, List.suffix_refl _⟩⟩
theorem under_trans {a b c : List UInt8} (h : underL a b = true) (h2 : underL b c = true) : underL a c = true := by
  rw [underL_iff] at h h2 ⊢
  exact ⟨h.1, h2.2.1, h2.2.2.trans h.2.2⟩
theorem under_same {a b : List UInt8} (h : underL a b = true) (h2 : underL b a = true) : foldL a = foldL b := by
  rw [underL_iff] at h h2
  have e : splitD (foldL a) = splitD (foldL b) := List.IsSuffix.eq_of_length_le h2.2.2 h.2.2.length_le
  rw [← joinD_split (foldL a), e, joinD_split]
end Go.Proofs.Ytjiiignbejbiiaa
end
section
namespace Go.Proofs.Ytjiiignbejbiiaa
open Go.Shelf Go.RowKit Go.Lib Go.Great
set_option maxRecDepth 100000
set_option maxHeartbeats 1000000
def capB (c : UInt8) : Bool := decide (65 ≤ c.toNat) && decide (c.toNat ≤ 90)
def letB (c : UInt8) : Bool := (decide (97 ≤ c.toNat) && decide (c.toNat ≤ 122)) || capB c
def digitB (c : UInt8) : Bool := decide (48 ≤ c.toNat) && decide (c.toNat ≤ 57)
theorem cap_any (c : UInt8) (w : World) : Calls Try.prog 42 #[.int .u8 (c.toNat : Int)] w fun e w' => e = .returned (.bool (capB c)) ∧ w' = w := by
  unfold capB
  generalize c.toNat = n
  by_cases h1 : 65 ≤ n
  · have h1' : (65 : Int) ≤ (n : Int) := by omega
    by_cases h2 : n ≤ 90
    · have h2' : (n : Int) ≤ 90 := by omega
      go_enter Try.func42, Try.ntmps42
      go_wp2
      go_ret
      simp [h1, h2]
    · have h2' : ¬ (n : Int) ≤ 90 := by omega
      go_enter Try.func42, Try.ntmps42
      go_wp2
      go_ret
      simp [h2]
  · have h1' : ¬ (65 : Int) ≤ (n : Int) := by omega
    go_enter Try.func42, Try.ntmps42
    go_wp2
    go_ret
    simp [h1]
theorem digit_any (c : UInt8) (w : World) : Calls Try.prog 51 #[.int .u8 (c.toNat : Int)] w fun e w' => e = .returned (.bool (digitB c)) ∧ w' = w := by
  unfold digitB
  generalize c.toNat = n
  by_cases h1 : 48 ≤ n
  · have h1' : (48 : Int) ≤ (n : Int) := by omega
    by_cases h2 : n ≤ 57
    · have h2' : (n : Int) ≤ 57 := by omega
      go_enter Try.func51, Try.ntmps51
      go_wp2
      go_ret
      simp [h1, h2]
    · have h2' : ¬ (n : Int) ≤ 57 := by omega
      go_enter Try.func51, Try.ntmps51
      go_wp2
      go_ret
      simp [h2]
  · have h1' : ¬ (48 : Int) ≤ (n : Int) := by omega
    go_enter Try.func51, Try.ntmps51
    go_wp2
    go_ret
    simp [h1]
theorem let_any (c : UInt8) (w : World) : Calls Try.prog 50 #[.int .u8 (c.toNat : Int)] w fun e w' => e = .returned (.bool (letB c)) ∧ w' = w := by
  have HC := Lib.hid (cap_any c w)
  unfold letB
  generalize capB c = q at HC ⊢
  generalize c.toNat = n at HC ⊢
  by_cases h1 : 97 ≤ n
  · have h1' : (97 : Int) ≤ (n : Int) := by omega
    by_cases h2 : n ≤ 122
    · have h2' : (n : Int) ≤ 122 := by omega
      go_enter Try.func50, Try.ntmps50
      go_wp2
      go_ret
      simp [h1, h2]
    · have h2' : ¬ (n : Int) ≤ 122 := by omega
      go_enter Try.func50, Try.ntmps50
      go_wp2_with (go_at_call 42; (with_reducible refine HC.out.mono ?_); rintro e w1 ⟨rfl, rfl⟩)
      go_ret
      simp [h2]
  · have h1' : ¬ (97 : Int) ≤ (n : Int) := by omega
    go_enter Try.func50, Try.ntmps50
    go_wp2_with (go_at_call 42; (with_reducible refine HC.out.mono ?_); rintro e w1 ⟨rfl, rfl⟩)
    go_ret
    simp [h1]
/-- What fits at a place, an end or none. -/
def fitsB (c : UInt8) (atEnd : Bool) : Bool := if c.toNat = 45 then !atEnd else decide (c.toNat = 95) || letB c || digitB c
theorem fits_any (c : UInt8) (b : Bool) (w : World) : Calls Try.prog 38 #[.int .u8 (c.toNat : Int), .bool b] w fun e w' => e = .returned (.bool (fitsB c b)) ∧ w' = w := by
  have HL := Lib.hid (let_any c w)
  have HD := Lib.hid (digit_any c w)
  unfold fitsB
  generalize letB c = q at HL ⊢
  generalize digitB c = r at HD ⊢
  generalize c.toNat = n at HL HD ⊢
  by_cases h1 : n = 45
  · subst h1
    cases b
    · go_enter Try.func38, Try.ntmps38
      go_wp2
      go_ret
      simp
    · go_enter Try.func38, Try.ntmps38
      go_wp2
      go_ret
      simp
  · have h1' : ¬ (n : Int) = 45 := by omega
    rw [if_neg h1]
    by_cases h2 : n = 95
    · subst h2
      go_enter Try.func38, Try.ntmps38
      go_wp2
      go_ret
      simp
    · have h2' : ¬ (n : Int) = 95 := by omega
      rw [decide_eq_false h2]
      cases q
      · cases r
        · go_enter Try.func38, Try.ntmps38
          go_wp2_with (first | (go_at_call 50; (with_reducible refine HL.out.mono ?_); rintro e w1 ⟨rfl, rfl⟩) | (go_at_call 51; (with_reducible refine HD.out.mono ?_); rintro e w1 ⟨rfl, rfl⟩))
          go_ret
          simp
        · go_enter Try.func38, Try.ntmps38
          go_wp2_with (first | (go_at_call 50; (with_reducible refine HL.out.mono ?_); rintro e w1 ⟨rfl, rfl⟩) | (go_at_call 51; (with_reducible refine HD.out.mono ?_); rintro e w1 ⟨rfl, rfl⟩))
          go_ret
          simp
      · go_enter Try.func38, Try.ntmps38
        go_wp2_with (first | (go_at_call 50; (with_reducible refine HL.out.mono ?_); rintro e w1 ⟨rfl, rfl⟩) | (go_at_call 51; (with_reducible refine HD.out.mono ?_); rintro e w1 ⟨rfl, rfl⟩))
        go_ret
        simp
end Go.Proofs.Ytjiiignbejbiiaa
end
