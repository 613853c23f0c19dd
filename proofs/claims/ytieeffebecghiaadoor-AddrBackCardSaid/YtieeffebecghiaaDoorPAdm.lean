/- Addresses as texts: plain lemmas without a program. No condition. -/
import Derived.Test.YtieeffebecghiaaDoorPIn
namespace Go.Proofs.YtieeffebecghiaaDoor

/-- A digit's byte. -/
def digB (n : Nat) : UInt8 := UInt8.ofNat (48 + n)
/-- A number's digits. -/
def decL (n : Nat) : List UInt8 := if _h : n < 10 then [digB n] else decL (n / 10) ++ [digB (n % 10)]
termination_by n
decreasing_by omega
theorem decL_small {n : Nat} (h : n < 10) : decL n = [digB n] := by rw [decL, dif_pos h]
theorem decL_big {n : Nat} (h : ¬ n < 10) : decL n = decL (n / 10) ++ [digB (n % 10)] := by rw [decL, dif_neg h]
def isDig (b : UInt8) : Bool := decide (48 ≤ b.toNat ∧ b.toNat ≤ 57)
theorem digB_nat {n : Nat} (h : n < 10) : (digB n).toNat = 48 + n := by unfold digB; rw [UInt8.toNat_ofNat']; omega
theorem digB_is {n : Nat} (h : n < 10) : isDig (digB n) = true := by unfold isDig; rw [digB_nat h]; simp; omega
theorem decL_digits (n : Nat) : ∀ b ∈ decL n, isDig b = true := by
  induction n using Nat.strongRecOn with
  | _ n ih =>
    by_cases h : n < 10
    · rw [decL_small h]
      intro b hb
      rw [List.mem_singleton] at hb
      rw [hb]
      exact digB_is h
    · rw [decL_big h]
      intro b hb
      rcases List.mem_append.1 hb with hb | hb
      · exact ih (n / 10) (by omega) b hb
      · rw [List.mem_singleton] at hb
        rw [hb]
        exact digB_is (by omega)
theorem decL_ne (n : Nat) : decL n ≠ [] := by
  by_cases h : n < 10
  · rw [decL_small h]; simp
  · rw [decL_big h]; simp
/-- The number of digits. -/
def numL (l : List UInt8) : Nat := l.foldl (fun a b => a * 10 + (b.toNat - 48)) 0
theorem numL_snoc (l : List UInt8) (b : UInt8) : numL (l ++ [b]) = numL l * 10 + (b.toNat - 48) := by simp [numL]
theorem numL_dec (n : Nat) : numL (decL n) = n := by
  induction n using Nat.strongRecOn with
  | _ n ih =>
    by_cases h : n < 10
    · rw [decL_small h]
      show 0 * 10 + ((digB n).toNat - 48) = n
      rw [digB_nat h]
      omega
    · rw [decL_big h, numL_snoc, ih (n / 10) (by omega), digB_nat (by omega)]
      omega
theorem decL_inj {a b : Nat} (h : decL a = decL b) : a = b := by rw [← numL_dec a, h, numL_dec]
theorem decL_len : ∀ (k n : Nat), n < 10 ^ (k + 1) → (decL n).length ≤ k + 1
  | 0, n, h => by rw [decL_small (by simpa using h)]; simp
  | k + 1, n, h => by
    by_cases h10 : n < 10
    · rw [decL_small h10]; simp
    · rw [decL_big h10, List.length_append, List.length_singleton]
      have := decL_len k (n / 10) (by rw [Nat.pow_succ] at h; omega)
      omega

/-- What the numbers of a text are, one behind the other: the state behind a text, as the reference keeps it. -/
def numsStep (st : List Nat × Bool) (b : UInt8) : List Nat × Bool :=
  if isDig b then
    let out := if st.2 then st.1 else st.1 ++ [0]
    (out.dropLast ++ [min ((out.getLastD 0) * 10 + (b.toNat - 48)) 999999], true)
  else (st.1, false)
def numsL (s : List UInt8) : List Nat × Bool := s.foldl numsStep ([], false)
theorem numsL_append (s u : List UInt8) : numsL (s ++ u) = u.foldl numsStep (numsL s) := by unfold numsL; rw [List.foldl_append]
theorem nums_digits : ∀ (l : List UInt8) (out : List Nat) (k : Nat), (∀ b ∈ l, isDig b = true) → l.foldl (fun a b => a * 10 + (b.toNat - 48)) k ≤ 999999 → l.foldl numsStep (out ++ [k], true) = (out ++ [l.foldl (fun a b => a * 10 + (b.toNat - 48)) k], true)
  | [], out, k, _, _ => rfl
  | b :: l, out, k, hd, hk => by
    have hmono : ∀ (l : List UInt8) (k : Nat), k ≤ l.foldl (fun a b => a * 10 + (b.toNat - 48)) k := by
      intro l
      induction l with
      | nil => intro k; exact Nat.le_refl _
      | cons c l ih => intro k; exact Nat.le_trans (by omega) (ih (k * 10 + (c.toNat - 48)))
    rw [List.foldl_cons] at hk
    have h1 := hmono l (k * 10 + (b.toNat - 48))
    rw [List.foldl_cons, List.foldl_cons]
    have : numsStep (out ++ [k], true) b = (out ++ [k * 10 + (b.toNat - 48)], true) := by
      unfold numsStep
      rw [if_pos (hd b (by simp))]
      simp only [if_true, List.dropLast_concat, List.getLastD_concat]
      rw [Nat.min_eq_left (by omega)]
    rw [this]
    exact nums_digits l out _ (fun c hc => hd c (List.mem_cons_of_mem _ hc)) hk
theorem nums_first (out : List Nat) (n : Nat) (hn : n ≤ 999999) : (decL n).foldl numsStep (out, false) = (out ++ [n], true) := by
  have hd := decL_digits n
  have hv := numL_dec n
  unfold numL at hv
  cases hl : decL n with
  | nil => exact absurd hl (decL_ne n)
  | cons b l =>
    rw [hl] at hd hv
    rw [List.foldl_cons] at hv ⊢
    have hb : b.toNat - 48 ≤ 9 := by
      have := hd b (by simp)
      unfold isDig at this
      simp at this
      omega
    have : numsStep (out, false) b = (out ++ [0 * 10 + (b.toNat - 48)], true) := by
      unfold numsStep
      rw [if_pos (hd b (by simp))]
      simp only [Bool.false_eq_true, if_false, List.dropLast_concat, List.getLastD_concat]
      rw [Nat.min_eq_left (by omega)]
    rw [this, nums_digits l out _ (fun c hc => hd c (List.mem_cons_of_mem _ hc)) (by omega), hv]
/-- Four numbers with points, a colon, and a port. -/
def textN (a b c d p : Nat) : List UInt8 := decL a ++ [46] ++ decL b ++ [46] ++ decL c ++ [46] ++ decL d ++ [58] ++ decL p
theorem nums_text (a b c d p : Nat) (ha : a ≤ 999999) (hb : b ≤ 999999) (hc : c ≤ 999999) (hd : d ≤ 999999) (hp : p ≤ 999999) : numsL (textN a b c d p) = ([a, b, c, d, p], true) := by
  have hx : ∀ (out : List Nat) (b : Bool) (x : UInt8), isDig x = false → [x].foldl numsStep (out, b) = (out, false) := fun out b x h => by
    show numsStep (out, b) x = _
    unfold numsStep
    rw [h]
    rfl
  unfold textN
  rw [numsL_append, numsL_append, numsL_append, numsL_append, numsL_append, numsL_append, numsL_append, numsL_append]
  have h0 : numsL (decL a) = ([a], true) := nums_first [] a ha
  rw [h0, hx [a] true 46 (by decide), nums_first [a] b hb, hx ([a] ++ [b]) true 46 (by decide), nums_first ([a] ++ [b]) c hc, hx ([a] ++ [b] ++ [c]) true 46 (by decide), nums_first ([a] ++ [b] ++ [c]) d hd, hx ([a] ++ [b] ++ [c] ++ [d]) true 58 (by decide), nums_first ([a] ++ [b] ++ [c] ++ [d]) p hp]
  rfl
theorem textN_inj {a b c d p a' b' c' d' p' : Nat} (h : textN a b c d p = textN a' b' c' d' p') (ha : a ≤ 999999) (hb : b ≤ 999999) (hc : c ≤ 999999) (hd : d ≤ 999999) (hp : p ≤ 999999) (ha' : a' ≤ 999999) (hb' : b' ≤ 999999) (hc' : c' ≤ 999999) (hd' : d' ≤ 999999) (hp' : p' ≤ 999999) : a = a' ∧ b = b' ∧ c = c' ∧ d = d' ∧ p = p' := by
  have h1 := nums_text a b c d p ha hb hc hd hp
  rw [h, nums_text a' b' c' d' p' ha' hb' hc' hd' hp'] at h1
  simp at h1
  omega
end Go.Proofs.YtieeffebecghiaaDoor
