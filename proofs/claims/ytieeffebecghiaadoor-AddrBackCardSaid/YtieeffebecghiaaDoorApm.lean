/- Numbers in texts, digit by digit; texts that are cut at a mark: plain lemmas without a program. No condition. -/
import Derived.Test.YtieeffebecghiaaDoorAcc
import Derived.Lib.IndexLaws
namespace Go.Proofs.YtieeffebecghiaaDoor
set_option maxRecDepth 100000
open Go.RowKit Go.Lib Go.Great

theorem head_app {a b : List UInt8} (h : a ≠ []) : (a ++ b).head? = a.head? := by
  cases a with
  | nil => exact absurd rfl h
  | cons x a => rfl
theorem dec_num : ∀ (n : Nat) (l : List UInt8), l.length = n + 1 → (∀ b ∈ l, isDig b = true) → (l.length = 1 ∨ l.head? ≠ some 48) → decL (numL l) = l
  | 0, l, hl, hd, _ => by
    match l, hl with
    | [c], _ =>
      have := hd c (by simp)
      unfold isDig at this
      simp at this
      have hn : numL [c] = c.toNat - 48 := by simp [numL]
      rw [hn, decL_small (by omega)]
      congr 1
      apply UInt8.toNat_inj.1
      rw [digB_nat (by omega)]
      omega
  | n + 1, l, hl, hd, hf => by
    have hne : l ≠ [] := fun e => by rw [e] at hl; simp at hl
    obtain ⟨l', c, rfl⟩ : ∃ l' c, l = l' ++ [c] := ⟨l.dropLast, l.getLast hne, (List.dropLast_concat_getLast hne).symm⟩
    have hl' : l'.length = n + 1 := by simpa using hl
    have hne' : l' ≠ [] := fun e => by rw [e] at hl'; simp at hl'
    have hh : l'.head? ≠ some 48 := by
      rcases hf with h | h
      · rw [List.length_append, hl'] at h; simp at h
      · rwa [head_app hne'] at h
    have ih := dec_num n l' hl' (fun b hb => hd b (by simp [hb])) (.inr hh)
    have hc := hd c (by simp)
    unfold isDig at hc
    simp at hc
    have hpos : 1 ≤ numL l' := by
      apply Decidable.byContradiction
      intro h0
      have e0 : numL l' = 0 := by omega
      rw [e0, decL_small (by omega)] at ih
      rw [← ih] at hh
      exact hh rfl
    rw [numL_snoc, decL_big (by omega)]
    have e1 : (numL l' * 10 + (c.toNat - 48)) / 10 = numL l' := by omega
    have e2 : (numL l' * 10 + (c.toNat - 48)) % 10 = c.toNat - 48 := by omega
    rw [e1, e2, ih]
    congr 2
    apply UInt8.toNat_inj.1
    rw [digB_nat (by omega)]
    omega
theorem dec_first (m : Nat) : (decL m).length = 1 ∨ (decL m).head? ≠ some 48 := by
  induction m using Nat.strongRecOn with
  | _ m ih =>
    by_cases h : m < 10
    · left
      rw [decL_small h]
      rfl
    · right
      rw [decL_big h, head_app (decL_ne _)]
      rcases ih (m / 10) (by omega) with h1 | h1
      · by_cases h2 : m / 10 < 10
        · rw [decL_small h2]
          intro e
          simp at e
          have := digB_nat h2
          rw [e] at this
          have : (48 : UInt8).toNat = 48 := rfl
          omega
        · have h3 := decL_big h2
          have := congrArg List.length h3
          rw [List.length_append] at this
          have h4 := List.length_pos_iff.2 (decL_ne (m / 10 / 10))
          simp at this
          omega
      · exact h1
theorem split_at {c : UInt8} : ∀ {a b a' b' : List UInt8}, c ∉ a → c ∉ a' → a ++ c :: b = a' ++ c :: b' → a = a' ∧ b = b'
  | [], b, [], b', _, _, h => by simpa using h
  | [], b, x :: a', b', _, h2, h => by
    simp at h
    exact absurd (by rw [h.1]; simp) h2
  | x :: a, b, [], b', h1, _, h => by
    simp at h
    exact absurd (by rw [← h.1]; simp) h1
  | x :: a, b, y :: a', b', h1, h2, h => by
    simp at h
    obtain ⟨e1, e2⟩ := split_at (fun hm => h1 (by simp [hm])) (fun hm => h2 (by simp [hm])) h.2
    exact ⟨by rw [h.1, e1], e2⟩
theorem dec_mark (m : Nat) (c : UInt8) (hc : isDig c = false) : c ∉ decL m := fun h => by
  have := decL_digits m c h
  rw [hc] at this
  cases this

/-- A digit as the program reckons it. -/
def dgt (c : UInt8) : Nat := (c.toNat + 208) % 256
def nF (l : List UInt8) : Nat := l.foldl (fun a c => 10 * a + dgt c) 0
def firstOk (l : List UInt8) : Bool := decide (l.length = 1) || !Lib.hasPrefix l [48]
def allD (l : List UInt8) : Bool := l.all fun c => decide (dgt c ≤ 9)
/-- What number tells. -/
def NumR (l : List UInt8) (most n : Nat) (b : Bool) : Prop := (b = true → n ≤ most ∧ decL n = l) ∧ ∀ m, m ≤ most → m < 100000 → decL m = l → b = true ∧ n = m
theorem dgt_dig (c : UInt8) : dgt c ≤ 9 ↔ isDig c = true := by
  have := c.toNat_lt
  unfold dgt isDig
  simp
  omega
theorem dgt_val {c : UInt8} (h : isDig c = true) : dgt c = c.toNat - 48 := by
  have := c.toNat_lt
  unfold dgt
  unfold isDig at h
  simp at h
  omega
theorem nF_num (l : List UInt8) (h : ∀ b ∈ l, isDig b = true) : nF l = numL l := by
  have : ∀ (l : List UInt8) (k : Nat), (∀ b ∈ l, isDig b = true) → l.foldl (fun a c => 10 * a + dgt c) k = l.foldl (fun a b => a * 10 + (b.toNat - 48)) k := by
    intro l
    induction l with
    | nil => intro k _; rfl
    | cons x l ih =>
      intro k hd
      simp only [List.foldl_cons]
      rw [ih _ (fun b hb => hd b (by simp [hb])), dgt_val (hd x (by simp)), Nat.mul_comm]
  exact this l 0 h
theorem first_ok (l : List UInt8) (hl : l ≠ []) : firstOk l = true ↔ (l.length = 1 ∨ l.head? ≠ some 48) := by
  match l, hl with
  | x :: l, _ =>
    unfold firstOk Lib.hasPrefix
    simp [List.isPrefixOf]
    constructor
    · rintro (h | h)
      · exact .inl h
      · exact .inr (fun e => h e.symm)
    · rintro (h | h)
      · exact .inl h
      · exact .inr (fun e => h e.symm)
theorem num_spec (l : List UInt8) (most : Nat) (h1 : 1 ≤ l.length) : NumR l most (nF l) (firstOk l && allD l && decide (nF l ≤ most)) := by
  have hne : l ≠ [] := fun e => by rw [e] at h1; simp at h1
  have hall : allD l = true ↔ ∀ b ∈ l, isDig b = true := by
    unfold allD
    rw [List.all_eq_true]
    constructor
    · intro h b hb
      have := h b hb
      rw [decide_eq_true_eq] at this
      exact (dgt_dig b).1 this
    · intro h b hb
      rw [decide_eq_true_eq]
      exact (dgt_dig b).2 (h b hb)
  constructor
  · intro h
    simp only [Bool.and_eq_true, decide_eq_true_eq] at h
    obtain ⟨⟨a, b⟩, c⟩ := h
    have hd := hall.1 b
    refine ⟨c, ?_⟩
    rw [nF_num l hd]
    exact dec_num (l.length - 1) l (by omega) hd ((first_ok l hne).1 a)
  · rintro m hm _ rfl
    have hd := decL_digits m
    have e : nF (decL m) = m := by rw [nF_num _ hd, numL_dec]
    refine ⟨?_, e⟩
    rw [e, (first_ok _ hne).2 (dec_first m), hall.2 hd]
    simp [hm]
theorem num_none (l : List UInt8) (most : Nat) (h : l.length = 0 ∨ 5 < l.length) : NumR l most 0 false := by
  constructor
  · intro h
    cases h
  · rintro m _ hm rfl
    have := decL_len 4 m (by omega)
    have := List.length_pos_iff.2 (decL_ne m)
    omega
end Go.Proofs.YtieeffebecghiaaDoor
