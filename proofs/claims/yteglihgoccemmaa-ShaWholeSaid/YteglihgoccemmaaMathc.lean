/- Numbers and texts that are put and read again: plain lemmas without a program. No condition. -/
import Derived.Test.YteglihgoccemmaaRdrs
namespace Go.Proofs.Yteglihgoccemmaa

theorem putB_succ (N k : Nat) : putB N (k + 1) = putB (N / 256) k ++ [UInt8.ofNat N] := by
  unfold putB
  rw [List.range_succ, List.map_append]
  congr 1
  · apply List.map_congr_left
    intro i hi
    have hi : i < k := by simpa using hi
    congr 1
    rw [Nat.div_div_eq_div_mul, show (256 : Nat) = 2 ^ 8 from rfl, ← Nat.pow_add]
    congr 2
    omega
  · simp

theorem getN_putB (k : Nat) : ∀ N : Nat, getN (putB N k) = N % 256 ^ k := by
  induction k with
  | zero => intro N; simp [putB, getN, Nat.mod_one]
  | succ k ih =>
    intro N
    rw [putB_succ, getN_snoc, ih]
    have h1 : (UInt8.ofNat N).toNat = N % 256 := by simp
    rw [h1, Nat.pow_succ, Nat.mul_comm (256 ^ k) 256, Nat.mod_mul]
    omega

theorem putB_getN (k : Nat) : ∀ ys : List UInt8, ys.length = k → putB (getN ys) k = ys := by
  induction k with
  | zero => intro ys h; have := List.eq_nil_of_length_eq_zero h; subst this; rfl
  | succ k ih =>
    intro ys h
    have hne : ys ≠ [] := by intro e; subst e; simp at h
    have hy := List.dropLast_concat_getLast hne
    rw [putB_succ]
    rw [← hy, getN_snoc]
    have hb := (ys.getLast hne).toNat_lt
    have e1 : (getN ys.dropLast * 256 + (ys.getLast hne).toNat) / 256 = getN ys.dropLast := by omega
    rw [e1, ih _ (by rw [List.length_dropLast]; omega)]
    congr 2
    apply UInt8.toNat.inj
    simp

/-- Parts that are put one behind the other. -/
def cat (f : Nat → List UInt8) (j : Nat) : List UInt8 := (List.range j).flatMap f
def rest (f : Nat → List UInt8) (m j : Nat) : List UInt8 := (List.range' j (m - j)).flatMap f
theorem cat_succ (f : Nat → List UInt8) (j : Nat) : cat f (j + 1) = cat f j ++ f j := by simp [cat, List.range_succ]
theorem rest_all (f : Nat → List UInt8) (m : Nat) : rest f m 0 = cat f m := by simp [rest, cat, List.range_eq_range']
theorem rest_end (f : Nat → List UInt8) (m : Nat) : rest f m m = [] := by simp [rest]
theorem rest_step (f : Nat → List UInt8) (m j : Nat) (h : j < m) : rest f m j = f j ++ rest f m (j + 1) := by
  unfold rest
  have e : m - j = (m - (j + 1)) + 1 := by omega
  rw [e, List.range'_succ, List.flatMap_cons]
theorem cat_length (f : Nat → List UInt8) (B : Nat) (h : ∀ i, (f i).length ≤ B) (j : Nat) : (cat f j).length ≤ B * j := by
  induction j with
  | zero => simp [cat]
  | succ j ih =>
    rw [cat_succ, List.length_append, Nat.mul_succ]
    have := h j
    omega

/-- A number's part is read again. -/
theorem num_back (N k : Nat) (ys : List UInt8) (h1 : 1 ≤ k) (h8 : k ≤ 8) : numV ⟨putB N k ++ ys, false⟩ (k : Int) = N % 256 ^ k ∧ numS ⟨putB N k ++ ys, false⟩ (k : Int) = ⟨ys, false⟩ := by
  have hl := putB_length N k
  have hok : numOk ⟨putB N k ++ ys, false⟩ (k : Int) := ⟨rfl, by omega, by omega, by simp only [List.length_append]; omega⟩
  simp only [numV, numS, if_pos hok, Int.toNat_natCast]
  rw [List.take_left' hl, List.drop_left' hl, getN_putB]
  exact ⟨rfl, rfl⟩
/-- A text's part is read again. -/
theorem txt_back (t ys : List UInt8) (h : t.length ≤ 1024) : txtV ⟨(putB t.length 2 ++ t) ++ ys, false⟩ 1024 = t ∧ txtS ⟨(putB t.length 2 ++ t) ++ ys, false⟩ 1024 = ⟨ys, false⟩ := by
  have hl := putB_length t.length 2
  have e1 : ((putB t.length 2 ++ t) ++ ys).take 2 = putB t.length 2 := by rw [List.append_assoc, List.take_left' hl]
  have e2 : ((putB t.length 2 ++ t) ++ ys).drop 2 = t ++ ys := by rw [List.append_assoc, List.drop_left' hl]
  have e3 : getN (putB t.length 2) = t.length := by rw [getN_putB]; omega
  have hok : txtOk ⟨(putB t.length 2 ++ t) ++ ys, false⟩ 1024 := by
    refine ⟨rfl, by simp only [List.length_append]; omega, ?_, ?_, ?_⟩
    · simp only [e1, e3]; omega
    · simp only [e1, e3]; omega
    · simp only [e1, e3, List.length_append]; omega
  simp only [txtV, txtS, if_pos hok, e1, e2, e3]
  rw [List.take_left' rfl, List.drop_left' rfl]
  exact ⟨rfl, rfl⟩

/-- What was read is put again: as long as the reader is not bad, what was put and what is left are the bytes. -/
def Back (b o : List UInt8) (s : St) : Prop := s.bad = false → b = o ++ s.ys
theorem back_num (b o : List UInt8) (s : St) (k : Nat) (h : Back b o s) : Back b (o ++ putB (numV s (k : Int)) k) (numS s (k : Int)) := by
  intro hb
  by_cases hok : numOk s (k : Int)
  · simp only [numS, numV, if_pos hok, Int.toNat_natCast] at hb ⊢
    obtain ⟨h0, h1, h8, hle⟩ := hok
    rw [putB_getN k _ (by rw [List.length_take]; omega), List.append_assoc, List.take_append_drop]
    exact h h0
  · simp [numS, if_neg hok] at hb
theorem back_txt (b o : List UInt8) (s : St) (h : Back b o s) : Back b (o ++ (putB (txtV s 1024).length 2 ++ txtV s 1024)) (txtS s 1024) := by
  intro hb
  by_cases hok : txtOk s 1024
  · simp only [txtS, txtV, if_pos hok] at hb ⊢
    obtain ⟨h0, h2, h3, h4, h5⟩ := hok
    have e1 : ((s.ys.drop 2).take (getN (s.ys.take 2))).length = getN (s.ys.take 2) := by rw [List.length_take, List.length_drop]; omega
    rw [e1, putB_getN 2 _ (by rw [List.length_take]; omega), List.append_assoc, List.append_assoc, List.take_append_drop, List.take_append_drop]
    exact h h0
  · simp [txtS, if_neg hok] at hb
theorem txtV_le (s : St) : (txtV s 1024).length ≤ 1024 := by
  unfold txtV
  split
  · rename_i h
    obtain ⟨_, _, _, h4, _⟩ := h
    rw [List.length_take]
    omega
  · simp
theorem back_done (b o : List UInt8) (s : St) (h : Back b o s) (hd : doneE s = 0) : b = o := by
  unfold doneE at hd
  split at hd
  · omega
  · rename_i hn
    have h1 : s.bad = false := by
      cases hb : s.bad with
      | false => rfl
      | true => exact absurd (.inl hb) hn
    have h2 : s.ys = [] := List.eq_nil_of_length_eq_zero (by
      have : ¬ 0 < s.ys.length := fun hh => hn (.inr hh)
      omega)
    have := h h1
    rwa [h2, List.append_nil] at this

/-- A number shifted to the left and back again. -/
theorem shift_back (N k : Nat) (h1 : 1 ≤ k) (h8 : k ≤ 8) : N * 2 ^ (64 - 8 * k) % 18446744073709551616 / 2 ^ (64 - 8 * k) = N % 256 ^ k := by
  have e1 : (18446744073709551616 : Nat) = 2 ^ (64 - 8 * k) * 256 ^ k := by
    rw [show (256 : Nat) = 2 ^ 8 from rfl, ← Nat.pow_mul, ← Nat.pow_add, show 64 - 8 * k + 8 * k = 64 from by omega]
  rw [e1, Nat.mul_comm N, Nat.mul_mod_mul_left, Nat.mul_div_cancel_left _ (Nat.two_pow_pos _)]
end Go.Proofs.Yteglihgoccemmaa
