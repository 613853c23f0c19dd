/- Sorting that keeps the order of what has the same key: plain lemmas on arrays. No condition. -/
import Derived.Sort.LotA
namespace Go.Proofs.Ytbfhfnbhfeedbaa
open Go.Sort
section
variable {α : Type} [Inhabited α] {key : α → Nat} {d d' d1 d2 : Array α} {a b m : Nat}
/-- What stands from a to b. -/
def seg (d : Array α) (a b : Nat) : List α := (List.range' a (b - a)).map fun i => d[i]!
theorem seg_length (d : Array α) (a b : Nat) : (seg d a b).length = b - a := by simp [seg]
theorem seg_get (d : Array α) (a b k : Nat) (h : k < (seg d a b).length) : (seg d a b)[k] = d[a + k]! := by simp [seg, List.getElem_range']
theorem seg_append (d : Array α) (h1 : a ≤ m) (h2 : m ≤ b) : seg d a b = seg d a m ++ seg d m b := by
  apply List.ext_getElem
  · simp only [List.length_append, seg_length]; omega
  · intro k h3 h4
    rw [seg_get, List.getElem_append]
    split
    · rw [seg_get]
    · rename_i h5
      rw [seg_get]
      simp only [seg_length] at h5 ⊢
      congr 1
      omega
theorem seg_shift {e f : Nat} (hl : b - a = f - e) (h : ∀ k, k < b - a → d'[a + k]! = d[e + k]!) : seg d' a b = seg d e f := by
  apply List.ext_getElem
  · simp only [seg_length]; omega
  · intro k h3 h4
    rw [seg_get, seg_get]
    exact h k (by simpa [seg_length] using h3)
theorem seg_congr (h : ∀ k, a ≤ k → k < b → d'[k]! = d[k]!) : seg d' a b = seg d a b := seg_shift rfl fun k hk => h _ (by omega) (by omega)
theorem seg_mem {x : α} (h : x ∈ seg d a b) : ∃ k, a ≤ k ∧ k < b ∧ d[k]! = x := by
  obtain ⟨i, hi, rfl⟩ := List.getElem_of_mem h
  rw [seg_get]
  rw [seg_length] at hi
  exact ⟨a + i, by omega, by omega, rfl⟩
theorem mem_seg {k : Nat} (h1 : a ≤ k) (h2 : k < b) : d[k]! ∈ seg d a b := by
  have hl : k - a < (seg d a b).length := by rw [seg_length]; omega
  have := List.getElem_mem hl
  rw [seg_get, show a + (k - a) = k by omega] at this
  exact this
theorem seg_all (d : Array α) : seg d 0 d.size = d.toList := by
  apply List.ext_getElem
  · simp [seg_length]
  · intro k h1 h2
    rw [seg_get, Nat.zero_add, getElem!_pos d k (by simpa using h2)]
    simp
/-- From a to b the key never falls. -/
def Asc (key : α → Nat) (a b : Nat) (d : Array α) : Prop := ∀ i j, a ≤ i → i ≤ j → j < b → key d[i]! ≤ key d[j]!
/-- Only what stands from a to b may have moved, and what has the same key stands in the same order. -/
structure Stb (key : α → Nat) (a b : Nat) (d d' : Array α) : Prop where
  size : d'.size = d.size
  out : ∀ k, k < a ∨ b ≤ k → d'[k]! = d[k]!
  se : ∀ q, (seg d' a b).filter (fun x => key x == q) = (seg d a b).filter (fun x => key x == q)
theorem Stb.refl (key : α → Nat) (a b : Nat) (d : Array α) : Stb key a b d d := ⟨rfl, fun _ _ => rfl, fun _ => rfl⟩
theorem Stb.trans (h : Stb key a b d d1) (k : Stb key a b d1 d2) : Stb key a b d d2 := ⟨k.size.trans h.size, fun i hi => (k.out i hi).trans (h.out i hi), fun q => (k.se q).trans (h.se q)⟩
theorem Stb.mono {e f : Nat} (h : Stb key a b d d') (h1 : e ≤ a) (h2 : b ≤ f) (h3 : a ≤ b) : Stb key e f d d' where
  size := h.size
  out k hk := h.out k (by omega)
  se q := by
    rw [seg_append d' h1 (show a ≤ f by omega), seg_append d' h3 h2, seg_append d h1 (show a ≤ f by omega), seg_append d h3 h2]
    simp only [List.filter_append]
    rw [h.se q, seg_congr (d' := d') (d := d) (a := e) (fun k _ h5 => h.out k (by omega)), seg_congr (d' := d') (d := d) (a := b) (fun k h4 _ => h.out k (by omega))]
theorem Stb.all (h : Stb key a b d d') {p : α → Prop} (hp : ∀ k, a ≤ k → k < b → p d[k]!) : ∀ k, a ≤ k → k < b → p d'[k]! := by
  intro k h1 h2
  have hm : d'[k]! ∈ (seg d' a b).filter (fun x => key x == key d'[k]!) := List.mem_filter.2 ⟨mem_seg h1 h2, by simp⟩
  rw [h.se] at hm
  obtain ⟨k', h3, h4, h5⟩ := seg_mem (List.mem_filter.1 hm).1
  rw [← h5]
  exact hp k' h3 h4
theorem Asc.sub {e f : Nat} (h : Asc key a b d) (h1 : a ≤ e) (h2 : f ≤ b) : Asc key e f d := fun i j hi hij hj => h i j (by omega) hij (by omega)
theorem Asc.congr {d d' : Array α} (h : Asc key a b d) (he : ∀ k, a ≤ k → k < b → d'[k]! = d[k]!) : Asc key a b d' := fun i j hi hij hj => by rw [he i hi (by omega), he j (by omega) hj]; exact h i j hi hij hj
theorem Asc.glue (h1 : Asc key a m d) (h2 : Asc key m b d) (h3 : ∀ i j, a ≤ i → i < m → m ≤ j → j < b → key d[i]! ≤ key d[j]!) : Asc key a b d := fun i j hi hij hj => by
  by_cases h4 : j < m
  · exact h1 i j hi hij h4
  · by_cases h5 : i < m
    · exact h3 i j hi h5 (by omega) hj
    · exact h2 i j (by omega) hij hj
/-- What stands from a to m and what stands from m to b have changed places. -/
structure RotIs (d : Array α) (a m b : Nat) (d' : Array α) : Prop where
  size : d'.size = d.size
  get : ∀ k, d'[k]! = if k < a ∨ b ≤ k then d[k]! else if k < a + (b - m) then d[m + (k - a)]! else d[k - (b - m)]!
theorem RotIs.out (h : RotIs d a m b d') (k : Nat) (hk : k < a ∨ b ≤ k) : d'[k]! = d[k]! := by rw [h.get, if_pos hk]
theorem RotIs.low (h : RotIs d a m b d') (hm : m ≤ b) (k : Nat) (hk : k < b - m) (hab : a ≤ m) : d'[a + k]! = d[m + k]! := by
  rw [h.get, if_neg (by omega), if_pos (by omega), Nat.add_sub_cancel_left]
theorem RotIs.high (h : RotIs d a m b d') (hm : m ≤ b) (k : Nat) (hk : k < m - a) (hab : a ≤ m) : d'[a + (b - m) + k]! = d[a + k]! := by
  rw [h.get, if_neg (by omega), if_neg (by omega), show a + (b - m) + k - (b - m) = a + k by omega]
theorem RotIs.stb (h : RotIs d a m b d') (ham : a ≤ m) (hmb : m ≤ b) (hs : ∀ i j, a ≤ i → i < m → m ≤ j → j < b → key d[j]! < key d[i]!) : Stb key a b d d' where
  size := h.size
  out := h.out
  se q := by
    rw [seg_append d' (show a ≤ a + (b - m) by omega) (show a + (b - m) ≤ b by omega), seg_append d ham hmb]
    rw [seg_shift (d' := d') (d := d) (a := a) (b := a + (b - m)) (e := m) (f := b) (by omega) (fun k hk => h.low hmb k (by omega) ham)]
    rw [seg_shift (d' := d') (d := d) (a := a + (b - m)) (b := b) (e := a) (f := m) (by omega) (fun k hk => h.high hmb k (by omega) ham)]
    simp only [List.filter_append]
    by_cases hx : (seg d a m).filter (fun x => key x == q) = []
    · rw [hx, List.append_nil, List.nil_append]
    · have hy : (seg d m b).filter (fun x => key x == q) = [] := by
        obtain ⟨x, hx'⟩ := List.exists_mem_of_ne_nil _ hx
        obtain ⟨hxm, hxq⟩ := List.mem_filter.1 hx'
        obtain ⟨i, hi1, hi2, rfl⟩ := seg_mem hxm
        rw [List.filter_eq_nil_iff]
        intro y hy hyq
        obtain ⟨j, hj1, hj2, rfl⟩ := seg_mem hy
        have := hs i j hi1 hi2 hj1 hj2
        simp only [beq_iff_eq] at hxq hyq
        omega
      rw [hy, List.append_nil, List.nil_append]
theorem RotIs.refl (d : Array α) (a b : Nat) (hab : a ≤ b) : RotIs d a a b d where
  size := rfl
  get k := by
    split
    · rfl
    · rw [if_pos (by omega)]; congr 1; omega
theorem RotIs.refl' (d : Array α) (a b : Nat) : RotIs d a b b d where
  size := rfl
  get k := by
    split
    · rfl
    · rw [if_neg (by omega)]; congr 1; omega
/-- What moves up. -/
theorem RotIs.up {k : Nat} (h : RotIs d a (a + 1) (k + 1) d1) (hk : a ≤ k) (hs : k + 1 < d.size) : RotIs d a (a + 1) (k + 2) (swp d1 k (k + 1)) where
  size := by rw [swp_size, h.size]
  get i := by
    rw [swp_get d1 (by rw [h.size]; omega) (by rw [h.size]; omega), h.get, h.get, h.get]
    by_cases h1 : i = k + 1
    · subst h1
      simp only [if_true]
      rw [if_neg (by omega), if_neg (by omega), if_neg (by omega), if_neg (by omega)]
      congr 1; omega
    · by_cases h2 : i = k
      · subst h2
        rw [if_neg h1, if_pos rfl, if_pos (by omega), if_neg (by omega), if_pos (by omega)]
        congr 1; omega
      · rw [if_neg h1, if_neg h2]
        by_cases h3 : i < a ∨ k + 2 ≤ i
        · rw [if_pos (by omega), if_pos h3]
        · rw [if_neg (by omega), if_neg h3, if_pos (by omega), if_pos (by omega)]
/-- What moves down. -/
theorem RotIs.down {k : Nat} (h : RotIs d (k + 1) m (m + 1) d1) (hk : k + 1 ≤ m) (hs : m < d.size) : RotIs d k m (m + 1) (swp d1 (k + 1) k) where
  size := by rw [swp_size, h.size]
  get i := by
    rw [swp_get d1 (by rw [h.size]; omega) (by rw [h.size]; omega), h.get, h.get, h.get]
    by_cases h1 : i = k
    · subst h1
      simp only [if_true]
      rw [if_neg (by omega), if_pos (by omega), if_neg (by omega), if_pos (by omega)]
      congr 1; omega
    · by_cases h2 : i = k + 1
      · subst h2
        rw [if_neg h1, if_pos rfl, if_pos (by omega), if_neg (by omega), if_neg (by omega)]
        congr 1; omega
      · rw [if_neg h1, if_neg h2]
        by_cases h3 : i < k ∨ m + 1 ≤ i
        · rw [if_pos (by omega), if_pos h3]
        · rw [if_neg (by omega), if_neg h3, if_neg (by omega), if_neg (by omega)]
/-- n places from a on and n places from b on have changed what they hold. -/
structure SwapIs (d : Array α) (a b n : Nat) (d' : Array α) : Prop where
  size : d'.size = d.size
  get : ∀ k, d'[k]! = if a ≤ k ∧ k < a + n then d[b + (k - a)]! else if b ≤ k ∧ k < b + n then d[a + (k - b)]! else d[k]!
theorem SwapIs.zero (d : Array α) (a b : Nat) : SwapIs d a b 0 d := ⟨rfl, fun k => by rw [if_neg (by omega), if_neg (by omega)]⟩
theorem SwapIs.step {n N : Nat} (h : SwapIs d a b n d1) (hN : n < N) (hab : a + N ≤ b) (hb : b + N ≤ d.size) : SwapIs d a b (n + 1) (swp d1 (a + n) (b + n)) where
  size := by rw [swp_size, h.size]
  get i := by
    rw [swp_get d1 (by rw [h.size]; omega) (by rw [h.size]; omega), h.get, h.get, h.get]
    by_cases h1 : i = b + n
    · subst h1
      simp only [if_true]
      rw [if_neg (by omega), if_neg (by omega), if_neg (by omega), if_pos (by omega)]
      congr 1; omega
    · by_cases h2 : i = a + n
      · subst h2
        rw [if_neg h1, if_pos rfl, if_neg (by omega), if_neg (by omega), if_pos (by omega)]
        congr 1; omega
      · rw [if_neg h1, if_neg h2]
        by_cases h3 : a ≤ i ∧ i < a + n
        · rw [if_pos h3, if_pos (by omega)]
        · by_cases h4 : b ≤ i ∧ i < b + n
          · rw [if_neg h3, if_pos h4, if_neg (by omega), if_pos (by omega)]
          · rw [if_neg h3, if_neg h4, if_neg (by omega), if_neg (by omega)]
/-- Both parts have the same length. -/
theorem SwapIs.rot {i : Nat} (h : SwapIs d a m i d') (hm : a + i = m) : RotIs d a m (m + i) d' where
  size := h.size
  get k := by
    rw [h.get]
    by_cases h1 : k < a ∨ m + i ≤ k
    · rw [if_pos h1, if_neg (by omega), if_neg (by omega)]
    · by_cases h2 : k < a + i
      · rw [if_pos (by omega), if_neg h1, if_pos (by omega)]
      · rw [if_neg (by omega), if_pos (by omega), if_neg h1, if_neg (by omega)]
        congr 1; omega
/-- The upper part is the shorter one. -/
theorem SwapIs.rot_up {i j : Nat} (h : SwapIs d (m - i) m j d1) (hij : j < i) (hi : i ≤ m) (k : RotIs d1 (m - i + j) m (m + j) d2) : RotIs d (m - i) m (m + j) d2 where
  size := k.size.trans h.size
  get x := by
    rw [k.get]
    by_cases h1 : x < m - i ∨ m + j ≤ x
    · rw [if_pos (by omega), if_pos h1, h.get, if_neg (by omega), if_neg (by omega)]
    · rw [if_neg h1]
      by_cases h2 : x < m - i + j
      · rw [if_pos (by omega), if_pos (by omega), h.get, if_pos (by omega)]
      · rw [if_neg (by omega), if_neg (show ¬ x < m - i + (m + j - m) by omega)]
        by_cases h3 : x < m - i + j + (m + j - m)
        · rw [if_pos h3, h.get, if_neg (by omega), if_pos (by omega)]
          congr 1; omega
        · rw [if_neg h3, h.get, if_neg (by omega), if_neg (by omega)]
/-- The lower part is the shorter one. -/
theorem SwapIs.rot_down {i j : Nat} (h : SwapIs d (m - i) (m + j - i) i d1) (hij : i < j) (hi : i ≤ m) (k : RotIs d1 (m - i) m (m + (j - i)) d2) : RotIs d (m - i) m (m + j) d2 where
  size := k.size.trans h.size
  get x := by
    rw [k.get]
    by_cases h1 : x < m - i ∨ m + j ≤ x
    · rw [if_pos (by omega), if_pos h1, h.get, if_neg (by omega), if_neg (by omega)]
    · rw [if_neg h1]
      by_cases h2 : m + j - i ≤ x
      · rw [if_pos (by omega), h.get, if_neg (by omega), if_pos (by omega), if_neg (show ¬ x < m - i + (m + j - m) by omega)]
        congr 1; omega
      · rw [if_neg (by omega)]
        by_cases h3 : x < m - i + (j - i)
        · rw [if_pos (by omega), h.get, if_neg (by omega), if_neg (by omega), if_pos (by omega)]
        · rw [if_neg (by omega), h.get, if_pos (by omega), if_pos (by omega)]
          congr 1; omega
end
end Go.Proofs.Ytbfhfnbhfeedbaa
