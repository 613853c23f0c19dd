/- A hash holds what was written: its words are those of the full blocks, its tail the rest; absorb appends. Conditions: fewer than 2^64 bytes in all, at most 900,000 at once. -/
import Derived.Test.YtcoiaddjfeaciaaShaf
namespace Go.Proofs.Ytcoiaddjfeaciaa
set_option maxRecDepth 100000
open Go.RowKit
set_option linter.unusedVariables false
set_option linter.unusedSimpArgs false

theorem blkI_append (v : V5) (r s : List UInt8) (i : Nat) (h : 64 * i ≤ r.length) : blkI v (r ++ s) i = blkI v r i := by
  induction i with
  | zero => rfl
  | succ i ih =>
    unfold blkI
    rw [ih (by omega), List.drop_append_of_le_length (by omega), List.take_append_of_le_length (by rw [List.length_drop]; omega)]
theorem blkI_add (v : V5) (r : List UInt8) (i j : Nat) : blkI v r (i + j) = blkI (blkI v r i) (r.drop (64 * i)) j := by
  induction j with
  | zero => rfl
  | succ j ih =>
    rw [← Nat.add_assoc]
    show aftI ((r.drop (64 * (i + j))).take 64) (blkI v r (i + j)) = aftI (((r.drop (64 * i)).drop (64 * j)).take 64) _
    rw [ih, List.drop_drop, Nat.mul_add]
def V0 : V5 := ⟨1732584193, 4023233417, 2562383102, 271733878, 3285377520⟩
/-- The words behind a text's full blocks. -/
def wordsOf (m : List UInt8) : V5 := blkI V0 m (m.length / 64)
/-- The hash at g has been written m. -/
def HashOf (w : World) (g : Nat) (m : List UInt8) : Prop :=
  ∃ tail, HashIs w g (wordsOf m) tail m.length ∧ tail.take (m.length % 64) = m.drop (64 * (m.length / 64))

theorem splice_take (tail cs : List UInt8) (q : Nat) (h : q + cs.length ≤ tail.length) : (splice tail q cs).take (q + cs.length) = tail.take q ++ cs := by
  unfold splice
  rw [← List.append_assoc, List.take_append_of_le_length (by rw [List.length_append, List.length_take]; omega), List.take_of_length_le (by rw [List.length_append, List.length_take]; omega)]

section
variable {w w' : World} {g : Nat} {m : List UInt8}
theorem small_of (h : HashOf w g m) (b : List UInt8) (hlen : m.length + b.length < 18446744073709551616) (hq : m.length % 64 + b.length < 64) (tail : List UInt8) (ht : tail.length = 64) (hT : tail.take (m.length % 64) = m.drop (64 * (m.length / 64))) {w1 : World} (hr : AbsR w g (wordsOf m) tail m.length b w1) : HashOf w1 g (m ++ b) ∧ w.grownBy w1 (some g) := by
  obtain ⟨h1, h2⟩ := hr
  refine ⟨⟨fillT tail (m.length % 64) b, ?_, ?_⟩, h2⟩
  · have e1 : (m ++ b).length / 64 = m.length / 64 := by rw [List.length_append]; omega
    have e2 : wordsOf (m ++ b) = wordsOf m := by unfold wordsOf; rw [e1, blkI_append _ _ _ _ (by omega)]
    rw [e2, List.length_append]
    rw [Nat.mod_eq_of_lt hlen] at h1
    exact h1
  · have e1 : (m ++ b).length / 64 = m.length / 64 := by rw [List.length_append]; omega
    have e3 : (m ++ b).length % 64 = m.length % 64 + b.length := by rw [List.length_append]; omega
    have e4 : b.take (64 - m.length % 64) = b := List.take_of_length_le (by omega)
    rw [e1, e3]
    unfold fillT
    rw [e4, splice_take _ _ _ (by omega), hT, List.drop_append_of_le_length (by omega)]
theorem big_of (h : HashOf w g m) (b : List UInt8) (hlen : m.length + b.length < 18446744073709551616) (hq : 64 ≤ m.length % 64 + b.length) (tail : List UInt8) (ht : tail.length = 64) (hT : tail.take (m.length % 64) = m.drop (64 * (m.length / 64))) {w1 : World} (hr : AbsB w g (wordsOf m) tail m.length b w1) : HashOf w1 g (m ++ b) ∧ w.grownBy w1 (some g) := by
  obtain ⟨h1, h2⟩ := hr
  have hm : (m ++ b).length = m.length + b.length := List.length_append
  have hdm : m.drop (64 * (m.length / 64)) ++ b = (m ++ b).drop (64 * (m.length / 64)) := (List.drop_append_of_le_length (by omega)).symm
  have hdl : (m.drop (64 * (m.length / 64))).length = m.length % 64 := by rw [List.length_drop]; omega
  have hF : fillT tail (m.length % 64) b = ((m ++ b).drop (64 * (m.length / 64))).take 64 := by
    have l1 : (b.take (64 - m.length % 64)).length = 64 - m.length % 64 := by rw [List.length_take]; omega
    have l2 := fillT_length tail (m.length % 64) b ht (by omega)
    have := splice_take tail (b.take (64 - m.length % 64)) (m.length % 64) (by omega)
    rw [l1, show m.length % 64 + (64 - m.length % 64) = 64 from by omega, List.take_of_length_le (by unfold fillT at l2; omega)] at this
    unfold fillT
    rw [this, hT, ← hdm, List.take_append, hdl, List.take_of_length_le (l := m.drop (64 * (m.length / 64))) (by omega)]
  have hX : aftI (fillT tail (m.length % 64) b) (wordsOf m) = blkI V0 (m ++ b) (m.length / 64 + 1) := by
    rw [hF]
    unfold wordsOf
    rw [← blkI_append V0 m b (m.length / 64) (by omega)]
    rfl
  have hR : b.drop (64 - m.length % 64) = (m ++ b).drop (64 * (m.length / 64 + 1)) := by
    have dn : (m.drop (64 * (m.length / 64))).drop 64 = [] := List.drop_eq_nil_of_le (by omega)
    rw [Nat.mul_add, Nat.mul_one, ← List.drop_drop, ← hdm, List.drop_append, hdl, dn, List.nil_append]
  have hRl : (b.drop (64 - m.length % 64)).length = m.length + b.length - 64 * (m.length / 64 + 1) := by rw [hR, List.length_drop, hm]
  have hn : (m ++ b).length / 64 = m.length / 64 + 1 + (b.drop (64 - m.length % 64)).length / 64 := by rw [hm, hRl]; omega
  refine ⟨⟨splice (fillT tail (m.length % 64) b) 0 ((b.drop (64 - m.length % 64)).drop (64 * ((b.drop (64 - m.length % 64)).length / 64))), ?_, ?_⟩, h2⟩
  · have e : wordsOf (m ++ b) = blkI (aftI (fillT tail (m.length % 64) b) (wordsOf m)) (b.drop (64 - m.length % 64)) ((b.drop (64 - m.length % 64)).length / 64) := by
      unfold wordsOf
      rw [hn, blkI_add, ← hR]
      rw [show aftI (fillT tail (m.length % 64) b) (blkI V0 m (m.length / 64)) = blkI V0 (m ++ b) (m.length / 64 + 1) from hX]
    rw [e, hm]
    rw [Nat.mod_eq_of_lt hlen] at h1
    exact h1
  · have l2 := fillT_length tail (m.length % 64) b ht (by omega)
    have l3 : ((b.drop (64 - m.length % 64)).drop (64 * ((b.drop (64 - m.length % 64)).length / 64))).length = (m ++ b).length % 64 := by rw [List.length_drop, hRl, hm]; omega
    have := splice_take (fillT tail (m.length % 64) b) ((b.drop (64 - m.length % 64)).drop (64 * ((b.drop (64 - m.length % 64)).length / 64))) 0 (by omega)
    rw [l3, Nat.zero_add, List.take_zero, List.nil_append] at this
    rw [this, hn]
    rw [hR, List.drop_drop]
    congr 1
    omega

theorem absorb_of (h : HashOf w g m) (A : Option Addr) (c : Nat) (b : List UInt8) (hb : BAt w w.heap.size A b) (hc : b.length ≤ c) (hl : b.length ≤ 900000) (hm : m.length ≤ 900000) (hne : ∀ g' off, A = some ⟨g', off, none⟩ → b ≠ [] → g' ≠ g) :
    Calls Try.prog 55 #[.pointer (some ⟨g, 0, none⟩), .slice A b.length c] w fun e w' => e = .returned (.tuple #[]) ∧ HashOf w' g (m ++ b) ∧ w.grownBy w' (some g) := by
  obtain ⟨tail, hh, hT⟩ := h
  by_cases hq : m.length % 64 + b.length < 64
  · exact (absorb_small hh A c b hb hl hne hq).mono fun e w' ⟨he, hr⟩ => ⟨he, small_of ⟨tail, hh, hT⟩ b (by omega) hq tail hh.2.1 hT hr⟩
  · exact (absorb_big hh A c b hb hl hc hne (by omega)).mono fun e w' ⟨he, hr⟩ => ⟨he, big_of ⟨tail, hh, hT⟩ b (by omega) (by omega) tail hh.2.1 hT hr⟩

/-- No bytes yet. -/
theorem first_of (h : w.heap[g]? = some (.cells (hcells V0 (List.replicate 64 0) 0).toArray 94 (0, 0))) : HashOf w g [] := ⟨List.replicate 64 0, ⟨h, by simp, by simp⟩, by simp⟩

theorem HashOf.lt (h : HashOf w g m) : g < w.heap.size := h.elim fun _ h => h.1.lt
theorem HashOf.below {B : Nat} (h : HashOf w g m) (hb : Below B w w') (hB : g < B) : HashOf w' g m := h.elim fun t h => ⟨t, ⟨(hb.block g hB).trans h.1.1, h.1.2⟩, h.2⟩
end

end Go.Proofs.Ytcoiaddjfeaciaa
