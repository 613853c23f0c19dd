/- Ids of a bucket, by their bits: plain lemmas without a program. No condition. -/
import Derived.Test.YtieeffebecghiaaPIdin
namespace Go.Proofs.Ytieeffebecghiaa

/-- x has the first i bits of o, its bit i turned, and the other bits of f. -/
structure Laid (o : List UInt8) (i : Nat) (f x : List UInt8) : Prop where
  len : x.length = 20
  bits : ∀ m, m < 160 → bitL x m = if m < i then bitL o m else if m = i then !bitL o i else bitL f m
section
variable {o f g x y t : List UInt8} {i k : Nat}
theorem Laid.unique (h : Laid o i f x) (h' : Laid o i f y) : x = y :=
  ext_bits (h.len.trans h'.len.symm) (fun m hm => by
    rw [h.len] at hm
    rw [h.bits m (by omega), h'.bits m (by omega)])
/-- It is for its bucket. -/
theorem Laid.pfx (ho : o.length = 20) (hi : i < 160) (h : Laid o i f x) : pfxN o x = i := by
  refine pfxN_unique (ho.trans h.len.symm) i (by omega) (fun m hm => ?_) (fun _ => ?_)
  · rw [h.bits m (by omega), if_pos hm]
  · rw [h.bits i hi, if_neg (by omega), if_pos rfl]
    cases bitL o i <;> simp
/-- An id of a bucket is laid by itself. -/
theorem laid_self (ho : o.length = 20) (hx : x.length = 20) (hne : o ≠ x) : Laid o (pfxN o x) x x := by
  obtain ⟨_, h2, h3, _⟩ := pfxN_spec o x (ho.trans hx.symm)
  obtain ⟨_, h5⟩ := h3 hne
  refine ⟨hx, fun m _ => ?_⟩
  by_cases h : m < pfxN o x
  · rw [if_pos h, h2 m h]
  · rw [if_neg h]
    by_cases e : m = pfxN o x
    · rw [if_pos e, e]
      cases ha : bitL o (pfxN o x) <;> cases hb : bitL x (pfxN o x) <;> simp_all
    · rw [if_neg e]
/-- Where bits are never greater, the id is not greater. -/
theorem cmpL_le_bits (hx : x.length = 20) (hy : y.length = 20) (h : ∀ m, m < 160 → bitL x m = true → bitL y m = true) : cmpL x y ≤ 0 := by
  unfold cmpL
  by_cases e : x = y
  · rw [if_pos e]; decide
  · rw [if_neg e]
    obtain ⟨_, _, h3, _⟩ := pfxN_spec x y (hx.trans hy.symm)
    obtain ⟨h4, h5⟩ := h3 e
    cases hb : bitL x (pfxN x y)
    · simp
    · have := h _ (by omega) hb
      rw [hb, this] at h5
      exact absurd rfl h5
theorem Laid.le (h : Laid o i f x) (h' : Laid o i g y) (hfg : ∀ m, m < 160 → bitL f m = true → bitL g m = true) : cmpL x y ≤ 0 := by
  refine cmpL_le_bits h.len h'.len (fun m hm => ?_)
  rw [h.bits m hm, h'.bits m hm]
  split
  · exact id
  · split
    · exact id
    · exact hfg m hm
theorem bitL_full (m : Nat) (hm : m < 160) : bitL (List.replicate 20 255) m = true := by
  unfold bitL
  rw [List.getD_eq_getElem?_getD, List.getElem?_replicate, if_pos (by omega)]
  have : ∀ k : Fin 8, (255 : UInt8).toNat.testBit k.val = true := by decide
  exact this ⟨7 - m % 8, by omega⟩
/-- Nearer: at the first bit that differs, the one that has the target's is nearer. -/
theorem nearer_bits (ht : t.length = 20) (hx : x.length = 20) (hy : y.length = 20) (hi : i < 160) (hs : ∀ m, m < i → bitL x m = bitL y m) (h1 : bitL x i = bitL t i) (h2 : bitL y i ≠ bitL t i) : cmpL (xorL t x) (xorL t y) = -1 := by
  have la : (xorL t x).length = 20 := (xorL_length (ht.trans hx.symm)).trans ht
  have lb : (xorL t y).length = 20 := (xorL_length (ht.trans hy.symm)).trans ht
  have bx : ∀ m, bitL (xorL t x) m = (bitL t m != bitL x m) := fun m => xorL_bit _ _ _ (ht.trans hx.symm)
  have bY : ∀ m, bitL (xorL t y) m = (bitL t m != bitL y m) := fun m => xorL_bit _ _ _ (ht.trans hy.symm)
  have x0 : bitL (xorL t x) i = false := by rw [bx, h1]; simp
  have y1 : bitL (xorL t y) i = true := by rw [bY]; simpa using fun e => h2 e.symm
  have hp : pfxN (xorL t x) (xorL t y) = i := pfxN_unique (la.trans lb.symm) i (by omega) (fun m hm => by rw [bx, bY, hs m hm]) (fun _ => by rw [x0, y1]; simp)
  unfold cmpL
  rw [if_neg, hp, x0]
  · rfl
  · intro e
    rw [← e, x0] at y1
    cases y1
/-- What is drawn of a bucket that is nearer is nearer than the owner. -/
theorem Laid.nearer (ht : t.length = 20) (ho : o.length = 20) (hi : i < 160) (h : Laid o i f x) (hd : bitL o i ≠ bitL t i) : cmpL (xorL t x) (xorL t o) = -1 := by
  refine nearer_bits ht h.len ho hi (fun m hm => ?_) ?_ hd
  · rw [h.bits m (by omega), if_pos hm]
  · rw [h.bits i hi, if_neg (by omega), if_pos rfl]
    cases ha : bitL o i <;> cases hb : bitL t i <;> simp_all
/-- What is drawn of an earlier one is nearer than what is drawn of a later one. -/
theorem Laid.earlier (ht : t.length = 20) (hi : i < k) (hk : k < 160) (h : Laid o i f x) (h' : Laid o k g y) (hd : bitL o i ≠ bitL t i) : cmpL (xorL t x) (xorL t y) = -1 := by
  refine nearer_bits (i := i) ht h.len h'.len (by omega) (fun m hm => ?_) ?_ ?_
  · rw [h.bits m (by omega), if_pos hm, h'.bits m (by omega), if_pos (by omega)]
  · rw [h.bits i (by omega), if_neg (by omega), if_pos rfl]
    cases ha : bitL o i <;> cases hb : bitL t i <;> simp_all
  · rw [h'.bits i (by omega), if_pos hi]
    exact hd
/-- Bit by bit: the first j bits are the owner's. -/
structure LaidTo (o : List UInt8) (f x : List UInt8) (j : Nat) : Prop where
  len : x.length = 20
  bits : ∀ m, m < 160 → bitL x m = if m < j then bitL o m else bitL f m
theorem LaidTo.start (hf : f.length = 20) : LaidTo o f f 0 := ⟨hf, fun m _ => by rw [if_neg (by omega)]⟩
theorem LaidTo.step {j : Nat} (hj : j < 160) (h : LaidTo o f x j) : LaidTo o f (withL x j (bitL o j)) (j + 1) := by
  refine ⟨(withL_length _ _ _).trans h.len, fun m hm => ?_⟩
  rw [withL_bit x j m _ (by rw [h.len]; omega)]
  by_cases e : m = j
  · rw [if_pos e, if_pos (by omega), e]
  · rw [if_neg e, h.bits m hm]
    by_cases h2 : m < j
    · rw [if_pos h2, if_pos (by omega)]
    · rw [if_neg h2, if_neg (by omega)]
theorem LaidTo.last (hi : i < 160) (h : LaidTo o f x i) : Laid o i f (withL x i (!bitL o i)) := by
  refine ⟨(withL_length _ _ _).trans h.len, fun m hm => ?_⟩
  rw [withL_bit x i m _ (by rw [h.len]; omega)]
  by_cases e : m = i
  · rw [if_pos e, if_neg (by omega), if_pos e]
  · rw [if_neg e, h.bits m hm, if_neg e]
end
/-- The first 20 bytes of a seed; what is missing is nought. -/
def seedL (s : List UInt8) : List UInt8 := (s ++ List.replicate 20 0).take 20
theorem seedL_length (s : List UInt8) : (seedL s).length = 20 := by simp [seedL]
theorem seedL_self {s : List UInt8} (h : s.length = 20) : seedL s = s := by
  unfold seedL
  rw [← h, List.take_left]
/-- The numbers of the bits that differ, below n, rising. -/
def nearL (o t : List UInt8) (n : Nat) : List Nat := (List.range n).filter (fun i => bitL o i != bitL t i)
theorem nearL_succ (o t : List UInt8) (n : Nat) : nearL o t (n + 1) = nearL o t n ++ if bitL o n != bitL t n then [n] else [] := by
  unfold nearL
  rw [List.range_succ, List.filter_append]
  congr 1
  by_cases h : bitL o n != bitL t n <;> simp [h]
theorem nearL_len (o t : List UInt8) (n : Nat) : (nearL o t n).length ≤ n := by
  have := List.length_filter_le (fun i => bitL o i != bitL t i) (List.range n)
  simpa [nearL] using this
theorem nearL_get {o t : List UInt8} {n q i : Nat} (h : (nearL o t n)[q]? = some i) : i < n ∧ bitL o i ≠ bitL t i := by
  have := List.mem_iff_getElem?.2 ⟨q, h⟩
  unfold nearL at this
  rw [List.mem_filter, List.mem_range] at this
  exact ⟨this.1, by simpa using this.2⟩
theorem nearL_rise {o t : List UInt8} {n p q i k : Nat} (hpq : p < q) (hp : (nearL o t n)[p]? = some i) (hq : (nearL o t n)[q]? = some k) : i < k := by
  have hs : (nearL o t n).Pairwise (· < ·) := List.Pairwise.filter _ List.pairwise_lt_range
  obtain ⟨h1, e1⟩ := List.getElem?_eq_some_iff.1 hp
  obtain ⟨h2, e2⟩ := List.getElem?_eq_some_iff.1 hq
  have := List.pairwise_iff_getElem.1 hs p q h1 h2 hpq
  rwa [e1, e2] at this
theorem nearL_nil {o t : List UInt8} (ho : o.length = 20) (ht : t.length = 20) : nearL o t 160 = [] ↔ o = t := by
  constructor
  · intro h
    refine ext_bits (ho.trans ht.symm) (fun i hi => ?_)
    rw [ho] at hi
    apply Decidable.byContradiction
    intro hne
    have : i ∈ nearL o t 160 := by
      unfold nearL
      rw [List.mem_filter, List.mem_range]
      exact ⟨by omega, by simpa using hne⟩
    rw [h] at this
    cases this
  · rintro rfl
    unfold nearL
    simp
end Go.Proofs.Ytieeffebecghiaa
