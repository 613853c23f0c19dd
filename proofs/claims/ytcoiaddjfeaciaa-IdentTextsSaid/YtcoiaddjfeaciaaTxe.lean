/- A text is read as the id that has it: plain lemmas without a program. No condition. -/
import Derived.Test.YtcoiaddjfeaciaaTxd
namespace Go.Proofs.Ytcoiaddjfeaciaa
set_option maxRecDepth 100000
open Go.RowKit

theorem textL_cons (x : UInt8) (xs : List UInt8) : textL (x :: xs) = digL (x.toNat / 16) :: digL (x.toNat % 16) :: textL xs := by
  simp [textL, hexL]
theorem textL_even : ∀ (xs : List UInt8) (k : Nat), k < xs.length → (textL xs).getD (2 * k) 0 = digL ((xs.getD k 0).toNat / 16) ∧ (textL xs).getD (2 * k + 1) 0 = digL ((xs.getD k 0).toNat % 16)
  | x :: xs, 0, _ => by rw [textL_cons]; exact ⟨rfl, rfl⟩
  | x :: xs, k + 1, h => by
    have ih := textL_even xs k (by simpa using h)
    rw [textL_cons]
    have e1 : 2 * (k + 1) = 2 * k + 1 + 1 := by omega
    have e2 : 2 * (k + 1) + 1 = 2 * k + 1 + 1 + 1 := by omega
    rw [e1]
    exact ih
theorem val_dig (n : Nat) (hn : n < 16) : valI (digL n) = n := by
  have : ∀ n : Fin 16, valI (digL n.val) = n.val := by decide
  exact this ⟨n, hn⟩
theorem dig_val (c : UInt8) (h : 0 ≤ valI c) : digL (valI c).toNat = c := by
  have : ∀ c : Fin 256, 0 ≤ valI (UInt8.ofNat c.val) → digL (valI (UInt8.ofNat c.val)).toNat = UInt8.ofNat c.val := by decide +kernel
  have := this ⟨c.toNat, c.toNat_lt⟩
  simp only [UInt8.ofNat_toNat] at this
  exact this h
theorem okP_text (xs : List UInt8) (hx : xs.length = 20) : okP (textL xs) := by
  refine ⟨by rw [textL_length, hx], fun i hi => ?_⟩
  have h := textL_even xs (i / 2) (by omega)
  have hl := (xs.getD (i / 2) 0).toNat_lt
  by_cases hm : i % 2 = 0
  · have e : i = 2 * (i / 2) := by omega
    rw [e, h.1, val_dig _ (by omega)]
    omega
  · have e : i = 2 * (i / 2) + 1 := by omega
    rw [e, h.2, val_dig _ (by omega)]
    omega
theorem parR_text (xs : List UInt8) (hx : xs.length = 20) : parR (textL xs) = xs := by
  unfold parR
  rw [if_pos (okP_text xs hx)]
  apply list_ext_getD
  · rw [parL_length, hx]
  · intro k hk
    rw [parL_length] at hk
    have h := textL_even xs k (by omega)
    have hl := (xs.getD k 0).toNat_lt
    have e : (parL (textL xs)).getD k 0 = parB (textL xs) k := by simp [parL, List.getD, hk]
    rw [e]
    unfold parB vN
    rw [h.1, h.2, val_dig _ (by omega), val_dig _ (by omega)]
    apply UInt8.toNat.inj
    rw [UInt8.toNat_ofNat']
    omega
theorem parE_text (xs : List UInt8) (hx : xs.length = 20) : parE (textL xs) = 0 := by
  unfold parE
  rw [if_pos (okP_text xs hx)]
theorem text_par (s : List UInt8) (h : okP s) : textL (parR s) = s := by
  unfold parR
  rw [if_pos h]
  obtain ⟨hl, hv⟩ := h
  apply list_ext_getD
  · rw [textL_length, parL_length, hl]
  · intro i hi
    rw [textL_length, parL_length] at hi
    have hp : (parL s).getD (i / 2) 0 = parB s (i / 2) := by simp [parL, List.getD, show i / 2 < 20 by omega]
    have he := textL_even (parL s) (i / 2) (by rw [parL_length]; omega)
    rw [hp] at he
    have l0 := vN_lt s (2 * (i / 2))
    have l1 := vN_lt s (2 * (i / 2) + 1)
    have hb : (parB s (i / 2)).toNat = 16 * vN s (2 * (i / 2)) + vN s (2 * (i / 2) + 1) := by
      unfold parB
      rw [UInt8.toNat_ofNat']
      omega
    rw [hb] at he
    by_cases hm : i % 2 = 0
    · have e : i = 2 * (i / 2) := by omega
      have e2 : (16 * vN s (2 * (i / 2)) + vN s (2 * (i / 2) + 1)) / 16 = vN s (2 * (i / 2)) := by omega
      rw [e2] at he
      rw [e, he.1]
      exact dig_val _ (hv _ (by omega))
    · have e : i = 2 * (i / 2) + 1 := by omega
      have e2 : (16 * vN s (2 * (i / 2)) + vN s (2 * (i / 2) + 1)) % 16 = vN s (2 * (i / 2) + 1) := by omega
      rw [e2] at he
      rw [e, he.2]
      exact dig_val _ (hv _ (by omega))
end Go.Proofs.Ytcoiaddjfeaciaa
