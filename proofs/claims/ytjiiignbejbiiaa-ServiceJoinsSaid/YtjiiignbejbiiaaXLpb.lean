/- Reading names from bytes: plain. No condition. -/
import Derived.Test.YtjiiignbejbiiaaXLpa
namespace Go.Proofs.Ytjiiignbejbiiaa
open Go.Lib
set_option maxRecDepth 100000
/-- Parts' bytes, each behind its length. -/
def flatP (L : List (List UInt8)) : List UInt8 := (L.map fun p => UInt8.ofNat p.length :: p).flatten
theorem flatP_append (a b : List (List UInt8)) : flatP (a ++ b) = flatP a ++ flatP b := by simp [flatP]
theorem flatP_one (p : List UInt8) : flatP [p] = UInt8.ofNat p.length :: p := by simp [flatP]
theorem flatP_cons (p : List UInt8) (r : List (List UInt8)) : flatP (p :: r) = UInt8.ofNat p.length :: (p ++ flatP r) := by simp [flatP]
theorem flatP_length (L : List (List UInt8)) : (flatP L).length = sizeD L := by
  induction L with
  | nil => rfl
  | cons p r ih => rw [show p :: r = [p] ++ r from rfl, flatP_append, List.length_append, ih, flatP_one, sizeD_append]; simp [sizeD]
/-- A name's bytes. -/
def wireL (s : List UInt8) : List UInt8 := flatP (splitD s) ++ [0]
theorem wireL_length (s : List UInt8) : (wireL s).length = s.length + 2 := by rw [wireL, List.length_append, flatP_length, sizeD_split]; rfl
/-- The parts that bytes begin with, and how many bytes they have with the zero. -/
def rdN : Nat → List UInt8 → Option (List (List UInt8) × Nat)
  | 0, _ => none
  | _ + 1, [] => none
  | k + 1, c :: r => if c = 0 then some ([], 1) else if r.length < c.toNat then none else if partL (r.take c.toNat) then (rdN k (r.drop c.toNat)).map fun x => (r.take c.toNat :: x.1, x.2 + 1 + c.toNat) else none
theorem rdN_more : ∀ (k m : Nat) (l : List UInt8), l.length < k → l.length < m → rdN k l = rdN m l
  | 0, _, _, h, _ => absurd h (by omega)
  | _, 0, _, _, h => absurd h (by omega)
  | k + 1, m + 1, [], _, _ => rfl
  | k + 1, m + 1, c :: r, h1, h2 => by
    simp only [List.length_cons] at h1 h2
    rw [rdN, rdN]
    split
    · rfl
    · split
      · rfl
      · split
        · rw [rdN_more k m (r.drop c.toNat) (by rw [List.length_drop]; omega) (by rw [List.length_drop]; omega)]
        · rfl
def rd (l : List UInt8) : Option (List (List UInt8) × Nat) := rdN (l.length + 1) l
theorem rd_nil : rd [] = none := rfl
theorem rd_zero (r : List UInt8) : rd (0 :: r) = some ([], 1) := by rw [rd, rdN, if_pos rfl]
theorem rd_short {c : UInt8} {r : List UInt8} (hc : c ≠ 0) (h : r.length < c.toNat) : rd (c :: r) = none := by rw [rd, rdN, if_neg hc, if_pos h]
theorem rd_bad {c : UInt8} {r : List UInt8} (hc : c ≠ 0) (h : ¬ r.length < c.toNat) (hp : partL (r.take c.toNat) = false) : rd (c :: r) = none := by rw [rd, rdN, if_neg hc, if_neg h, hp]; rfl
theorem rd_part {c : UInt8} {r : List UInt8} (hc : c ≠ 0) (h : ¬ r.length < c.toNat) (hp : partL (r.take c.toNat) = true) : rd (c :: r) = (rd (r.drop c.toNat)).map fun x => (r.take c.toNat :: x.1, x.2 + 1 + c.toNat) := by
  rw [rd, rdN, if_neg hc, if_neg h, hp, if_pos rfl, rdN_more _ ((r.drop c.toNat).length + 1) _ (by rw [List.length_drop, List.length_cons]; omega) (by omega)]
  rfl
/-- From a place on. -/
theorem rd_at {l : List UInt8} {i : Nat} (hi : i < l.length) : l.drop i = l[i] :: l.drop (i + 1) := List.drop_eq_getElem_cons hi
/-- What is read are good parts, and stands there. -/
theorem rd_some : ∀ (n : Nat) (l : List UInt8) (ps : List (List UInt8)) (k : Nat), l.length ≤ n → rd l = some (ps, k) → (∀ p ∈ ps, partL p = true) ∧ l.take k = flatP ps ++ [0] ∧ k = sizeD ps + 1 ∧ k ≤ l.length
  | n, [], ps, k, _, h => by rw [rd_nil] at h; cases h
  | 0, c :: r, ps, k, hn, h => absurd hn (by simp)
  | n + 1, c :: r, ps, k, hn, h => by
    simp only [List.length_cons] at hn
    by_cases hc : c = 0
    · subst hc
      rw [rd_zero] at h
      injection h with h
      injection h with h1 h2
      subst h1 h2
      exact ⟨by simp, by simp [flatP], rfl, by simp⟩
    · by_cases hs : r.length < c.toNat
      · rw [rd_short hc hs] at h; cases h
      · cases hp : partL (r.take c.toNat) with
        | false => rw [rd_bad hc hs hp] at h; cases h
        | true =>
          rw [rd_part hc hs hp] at h
          cases hr : rd (r.drop c.toNat) with
          | none => rw [hr] at h; cases h
          | some x =>
            rw [hr] at h
            injection h with h
            injection h with h1 h2
            subst h1 h2
            obtain ⟨h3, h4, h5, h6⟩ := rd_some n (r.drop c.toNat) x.1 x.2 (by rw [List.length_drop]; omega) hr
            have hl : (r.take c.toNat).length = c.toNat := by rw [List.length_take]; omega
            rw [List.length_drop] at h6
            refine ⟨fun p hp' => ?_, ?_, ?_, by simp only [List.length_cons]; omega⟩
            · rcases List.mem_cons.1 hp' with rfl | hp'
              · exact hp
              · exact h3 p hp'
            · rw [flatP_cons, hl, show UInt8.ofNat c.toNat = c from UInt8.ofNat_toNat, show x.2 + 1 + c.toNat = (c.toNat + x.2) + 1 by omega, List.take_succ_cons, List.take_add, h4]
              simp
            · rw [sizeD_cons, hl, h5]; omega
/-- Good parts are read, ahead of whatever. -/
theorem rd_flat : ∀ (ps : List (List UInt8)) (r : List UInt8), (∀ p ∈ ps, partL p = true) → rd (flatP ps ++ 0 :: r) = some (ps, sizeD ps + 1)
  | [], r, _ => by rw [show flatP [] ++ 0 :: r = 0 :: r from rfl, rd_zero]; rfl
  | p :: ps, r, h => by
    have hp := h p (by simp)
    obtain ⟨l1, l2⟩ := partL_len hp
    have hn : (UInt8.ofNat p.length).toNat = p.length := by rw [UInt8.toNat_ofNat']; omega
    have hc : UInt8.ofNat p.length ≠ 0 := fun e => by
      have := congrArg UInt8.toNat e
      rw [hn, show (0 : UInt8).toNat = 0 from rfl] at this
      omega
    rw [flatP_cons, List.cons_append, List.append_assoc, rd_part hc (by rw [hn]; simp) (by rw [hn, List.take_left]; exact hp), hn, List.take_left, List.drop_left, rd_flat ps r (fun q hq => h q (by simp [hq])), sizeD_cons]
    simp
    omega
/-- Of fewer bytes: the same, or none. -/
theorem rd_take (m : Nat) : ∀ (n : Nat) (l : List UInt8), l.length ≤ n → rd (l.take m) = (rd l).bind fun x => if x.2 ≤ m then some x else none := by
  intro n l hl
  cases h : rd (l.take m) with
  | some x =>
    obtain ⟨h1, h2, h3, h4⟩ := rd_some _ _ x.1 x.2 (Nat.le_refl _) h
    have h5 : l = flatP x.1 ++ 0 :: l.drop x.2 := by
      rw [List.take_take, Nat.min_eq_left (by rw [List.length_take] at h4; omega)] at h2
      conv => lhs; rw [← List.take_append_drop x.2 l, h2]
      simp
    have h6 : rd l = some (x.1, sizeD x.1 + 1) := by
      conv => lhs; rw [h5]
      exact rd_flat _ _ h1
    rw [h6, ← h3]
    have : x.2 ≤ m := by rw [List.length_take] at h4; omega
    exact (if_pos (c := x.2 ≤ m) this).symm
  | none =>
    cases h7 : rd l with
    | none => rfl
    | some x =>
      have hx : ¬ x.2 ≤ m := fun hx => by
        obtain ⟨h1, h2, h3, h4⟩ := rd_some _ _ x.1 x.2 (Nat.le_refl _) h7
        have h5 : l.take m = flatP x.1 ++ 0 :: (l.take m).drop x.2 := by
          conv => lhs; rw [← List.take_append_drop x.2 (l.take m), List.take_take, Nat.min_eq_left hx, h2]
          simp
        rw [h5, rd_flat _ _ h1] at h
        cases h
      exact (if_neg hx).symm
/-- What stands at a place: the name, where it ends, and an error. -/
def pickU (k : Int) : Option (List (List UInt8) × Nat) → List UInt8 × Int × Int
  | none => ([], 0, 10)
  | some x => if goodL (joinD x.1) then (joinD x.1, k + x.2, 0) else ([], 0, 10)
def unwireL (b : List UInt8) (at_ : Int) : List UInt8 × Int × Int :=
  if at_ < 0 ∨ (b.length : Int) ≤ at_ then ([], 0, 30) else pickU at_ (rd (b.drop at_.toNat))
theorem rd_good {l : List UInt8} {x : List (List UInt8) × Nat} (h : rd l = some x) (hg : goodL (joinD x.1) = true) : x.1 ≠ [] ∧ splitD (joinD x.1) = x.1 ∧ x.2 = (joinD x.1).length + 2 ∧ x.2 ≤ 255 := by
  obtain ⟨h1, h2, h3, h4⟩ := rd_some _ _ x.1 x.2 (Nat.le_refl _) h
  have hne : x.1 ≠ [] := fun e => by rw [e] at hg; exact absurd hg (by decide)
  have hl := joinD_length x.1 hne
  have hs := ((goodL_iff _).1 hg).2
  exact ⟨hne, splitD_join _ hne (fun p hp => partL_dot (h1 p hp)), by omega, by omega⟩
/-- Looking at no more than 255 bytes makes no difference. -/
theorem unwireL_take (b : List UInt8) (k : Nat) (j : Int) : pickU j (rd ((b.drop k).take 255)) = pickU j (rd (b.drop k)) := by
  rw [rd_take 255 _ _ (Nat.le_refl _)]
  cases h : rd (b.drop k) with
  | none => rfl
  | some x =>
    by_cases hx : x.2 ≤ 255
    · rw [Option.bind_some, if_pos hx]
    · have hg : goodL (joinD x.1) = false := by
        rw [← Bool.not_eq_true]
        intro hg
        exact hx (rd_good h hg).2.2.2
      rw [Option.bind_some, if_neg hx]
      simp [pickU, hg]
/-- A good name is read from its bytes, wherever they stand. -/
theorem unwire_wire (s a b : List UInt8) (h : goodL s = true) : unwireL (a ++ wireL s ++ b) a.length = (s, (a.length : Int) + (wireL s).length, 0) := by
  have hl := wireL_length s
  rw [unwireL, if_neg (by simp [hl]; omega)]
  have e : (a ++ wireL s ++ b).drop (a.length : Int).toNat = flatP (splitD s) ++ 0 :: b := by
    rw [Int.toNat_natCast, List.append_assoc, List.drop_left, wireL]
    simp
  rw [e, rd_flat _ _ ((goodL_iff s).1 h).1]
  simp only [pickU, joinD_split, h, if_true]
  rw [hl, sizeD_split]
/-- What is read has just these bytes. -/
theorem unwire_back (b : List UInt8) (n : List UInt8) (to : Int) (h : unwireL b 0 = (n, to, 0)) : goodL n = true ∧ to = (wireL n).length ∧ (wireL n).length ≤ b.length ∧ b.take (wireL n).length = wireL n := by
  rw [unwireL] at h
  split at h
  · injection h with _ h; injection h with _ h; cases h
  · simp only [Int.toNat_zero, List.drop_zero] at h
    cases hr : rd b with
    | none => rw [hr] at h; injection h with _ h; injection h with _ h; cases h
    | some x =>
      rw [hr] at h
      simp only [pickU] at h
      split at h
      · rename_i hg
        injection h with h1 h2
        injection h2 with h2 _
        subst h1
        obtain ⟨_, h3, h4, _⟩ := rd_good hr hg
        obtain ⟨_, h5, h6, h7⟩ := rd_some _ _ x.1 x.2 (Nat.le_refl _) hr
        have hl := wireL_length (joinD x.1)
        refine ⟨hg, by omega, by omega, ?_⟩
        rw [hl, ← h4, h5, wireL, h3]
      · injection h with _ h; injection h with _ h; cases h
theorem unwire_err (b : List UInt8) (k : Int) (n : List UInt8) (to e : Int) (h : unwireL b k = (n, to, e)) (he : e ≠ 0) : n = [] ∧ to = 0 := by
  rw [unwireL] at h
  split at h
  · injection h with h1 h2; injection h2 with h2 _; exact ⟨h1.symm, h2.symm⟩
  · cases hr : rd (b.drop k.toNat) with
    | none => rw [hr] at h; injection h with h1 h2; injection h2 with h2 _; exact ⟨h1.symm, h2.symm⟩
    | some x =>
      rw [hr] at h
      simp only [pickU] at h
      split at h
      · injection h with h1 h2; injection h2 with h2 h3; exact absurd h3.symm he
      · injection h with h1 h2; injection h2 with h2 _; exact ⟨h1.symm, h2.symm⟩
end Go.Proofs.Ytjiiignbejbiiaa
