/- Plain facts on drawing, for layer 7: what is left of the bytes is the state. No program, no condition. -/
import Derived.Test.YtbfhfnbhfeedbaaPDrc
namespace Go.Proofs.Ytbfhfnbhfeedbaa

/-- The number of a draw's bytes, read on from x: m counts what is to come. -/
def numX : Nat → Nat → List UInt8 → Nat × List UInt8
  | 0, x, r => (x, r)
  | m + 1, x, r => numX ((m + 1) / 256) (x * 256 + (r.headD 0).toNat) r.tail
termination_by m => m
decreasing_by omega

theorem numX_zero (x : Nat) (r : List UInt8) : numX 0 x r = (x, r) := by unfold numX; rfl
theorem numX_step {m : Nat} (h : 0 < m) (x : Nat) (r : List UInt8) : numX m x r = numX (m / 256) (x * 256 + (r.headD 0).toNat) r.tail := by
  obtain ⟨k, rfl⟩ : ∃ k, m = k + 1 := ⟨m - 1, by omega⟩
  rw [numX]

/-- A number below n, and what is left. -/
def numL (n : Int) (r : List UInt8) : Nat × List UInt8 :=
  if n < 2 then (0, r) else ((numX (n.toNat - 1) 0 r).1 % n.toNat, (numX (n.toNat - 1) 0 r).2)

theorem numL_lt {n : Int} (h : 1 ≤ n) (r : List UInt8) : (numL n r).1 < n.toNat := by
  unfold numL
  split
  · simp only; omega
  · exact Nat.mod_lt _ (by omega)
theorem numL_small {n : Int} (h : n < 2) (r : List UInt8) : numL n r = (0, r) := by unfold numL; rw [if_pos h]

/-- x stays below 256 to the number of bytes read. -/
theorem numX_bound (k : Nat) : ∀ (m x : Nat) (r : List UInt8) (B : Nat), m < 256 ^ k → x < B → (numX m x r).1 < B * 256 ^ k := by
  induction k with
  | zero =>
    intro m x r B hm hx
    obtain rfl : m = 0 := by simp at hm; exact hm
    rw [numX_zero]; simpa using hx
  | succ k ih =>
    intro m x r B hm hx
    by_cases h : m = 0
    · subst h
      rw [numX_zero]
      have : 0 < 256 ^ (k + 1) := Nat.pow_pos (by omega)
      exact Nat.lt_of_lt_of_le hx (Nat.le_mul_of_pos_right _ this)
    · rw [numX_step (by omega)]
      have hb : (r.headD 0).toNat < 256 := (r.headD 0).toNat_lt
      have hm' : m / 256 < 256 ^ k := by
        rw [Nat.pow_succ] at hm
        exact Nat.div_lt_of_lt_mul (by rw [Nat.mul_comm]; exact hm)
      have := ih (m / 256) (x * 256 + (r.headD 0).toNat) r.tail (B * 256) hm' (by omega)
      rw [Nat.pow_succ, Nat.mul_comm (256 ^ k), ← Nat.mul_assoc]
      exact this

/-- One byte tells a number below up to 256. -/
theorem numL_byte {n : Nat} (h1 : 2 ≤ n) (h2 : n ≤ 256) {c : Nat} (hc : c < n) (r : List UInt8) : numL (n : Int) (UInt8.ofNat c :: r) = (c, r) := by
  unfold numL
  rw [if_neg (by omega), Int.toNat_natCast, numX_step (by omega), show (n - 1) / 256 = 0 from by omega, numX_zero]
  simp only [List.headD_cons, List.tail_cons, Nat.zero_mul, Nat.zero_add]
  rw [UInt8.toNat_ofNat', Nat.mod_eq_of_lt (show c < 2 ^ 8 by omega), Nat.mod_eq_of_lt hc]

/-- The order that is drawn of l, k numbers of it. -/
def ordG : Nat → List Nat → List UInt8 → List Nat × List UInt8
  | 0, _, r => ([], r)
  | k + 1, l, r => (l.getD (numL l.length r).1 0 :: (ordG k (l.eraseIdx (numL l.length r).1) (numL l.length r).2).1, (ordG k (l.eraseIdx (numL l.length r).1) (numL l.length r).2).2)

theorem getD_erase_perm {l : List Nat} : ∀ {i : Nat}, i < l.length → (l.getD i 0 :: l.eraseIdx i).Perm l := by
  induction l with
  | nil => intro i h; cases h
  | cons a l ih =>
    intro i h
    cases i with
    | zero => exact .refl _
    | succ i =>
      rw [List.getD_cons_succ, List.eraseIdx_cons_succ]
      exact (List.Perm.swap _ _ _).trans ((ih (Nat.lt_of_succ_lt_succ h)).cons a)

theorem ordG_perm : ∀ (k : Nat) (l : List Nat) (r : List UInt8), l.length = k → ((ordG k l r).1).Perm l := by
  intro k
  induction k with
  | zero => intro l r h; rw [List.length_eq_zero_iff.1 h]; exact .nil
  | succ k ih =>
    intro l r h
    have hlt : (numL l.length r).1 < l.length := by
      have := numL_lt (n := (l.length : Int)) (by omega) r
      omega
    have hl : (l.eraseIdx (numL l.length r).1).length = k := by rw [List.length_eraseIdx_of_lt hlt]; omega
    exact ((ih _ (numL l.length r).2 hl).cons _).trans (getD_erase_perm hlt)

/-- The bytes that tell an order. -/
def codeL : List Nat → List UInt8
  | [] => []
  | [_] => []
  | x :: y :: t => UInt8.ofNat (((y :: t).filter (· < x)).length) :: codeL (y :: t)

theorem sorted_at {L : List Nat} (hs : L.Pairwise (· < ·)) {x : Nat} (hx : x ∈ L) : (L.filter (· < x)).length < L.length ∧ L.getD (L.filter (· < x)).length 0 = x := by
  induction L with
  | nil => cases hx
  | cons a L ih =>
    rw [List.pairwise_cons] at hs
    rcases List.mem_cons.1 hx with e | hx'
    · subst e
      have : L.filter (· < x) = [] := by
        rw [List.filter_eq_nil_iff]
        intro y hy
        have := hs.1 y hy
        simp; omega
      rw [List.filter_cons_of_neg (by simp), this]
      exact ⟨by simp, by simp⟩
    · have hlt := hs.1 x hx'
      rw [List.filter_cons_of_pos (by simp [hlt])]
      have := ih hs.2 hx'
      refine ⟨by simp only [List.length_cons]; omega, ?_⟩
      simp only [List.length_cons, List.getD_cons_succ]
      exact this.2

theorem ordG_code : ∀ (l L : List Nat), L.Pairwise (· < ·) → L.Perm l → L.length ≤ 256 → ordG L.length L (codeL l) = (l, []) := by
  intro l
  induction l with
  | nil =>
    intro L _ hp _
    have := hp.length_eq
    obtain rfl : L = [] := List.length_eq_zero_iff.1 (by simpa using this)
    rfl
  | cons x t ih =>
    intro L hs hp hl
    have hlen := hp.length_eq
    have hx : x ∈ L := hp.mem_iff.2 (List.mem_cons_self)
    obtain ⟨h1, h2⟩ := sorted_at hs hx
    have hc : (L.filter (· < x)).length = (t.filter (· < x)).length := by
      rw [(hp.filter _).length_eq, List.filter_cons_of_neg (by simp)]
    rw [hc] at h1 h2
    have hn : numL L.length (codeL (x :: t)) = ((t.filter (· < x)).length, codeL t) := by
      cases t with
      | nil =>
        rw [numL_small (by rw [hlen]; simp)]
        rfl
      | cons y t =>
        exact numL_byte (by rw [hlen]; simp) hl h1 _
    have hpe : (L.eraseIdx (t.filter (· < x)).length).Perm t := by
      have := (getD_erase_perm h1).trans hp
      rw [h2] at this
      exact this.cons_inv
    have hle : (L.eraseIdx (t.filter (· < x)).length).length = L.length - 1 := by rw [List.length_eraseIdx_of_lt h1]
    have hh := ih _ (hs.sublist (List.eraseIdx_sublist _ _)) hpe (by omega)
    rw [hle] at hh
    obtain ⟨k, hk⟩ : ∃ k, L.length = k + 1 := ⟨L.length - 1, by simp at hlen; omega⟩
    rw [hk] at hh ⊢
    rw [ordG, hn, h2]
    simp only [Nat.add_sub_cancel] at hh
    rw [hh]
/-- Each order of n numbers is drawn by the bytes that tell it. -/
theorem ord_again (n : Nat) (hn : n ≤ 256) (r : List UInt8) : ordG n (List.range n) (codeL (ordG n (List.range n) r).1) = ((ordG n (List.range n) r).1, []) := by
  have h := ordG_code (ordG n (List.range n) r).1 (List.range n) List.pairwise_lt_range (ordG_perm n _ r List.length_range).symm (by rw [List.length_range]; exact hn)
  rwa [List.length_range] at h
theorem ord_len (n : Nat) (r : List UInt8) : (ordG n (List.range n) r).1.length = n := by
  rw [(ordG_perm n _ r List.length_range).length_eq, List.length_range]
theorem ord_lt (n : Nat) (r : List UInt8) : ∀ x ∈ (ordG n (List.range n) r).1, x < n := fun _ hx => List.mem_range.1 ((ordG_perm n _ r List.length_range).mem_iff.1 hx)
theorem ord_nodup (n : Nat) (r : List UInt8) : (ordG n (List.range n) r).1.Nodup := (ordG_perm n _ r List.length_range).nodup_iff.2 List.nodup_range
end Go.Proofs.Ytbfhfnbhfeedbaa
