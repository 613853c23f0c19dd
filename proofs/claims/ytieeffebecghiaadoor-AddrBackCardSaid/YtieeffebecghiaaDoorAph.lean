/- The text of an address, cut mark by mark: plain lemmas without a program. No condition. -/
import Derived.Test.YtieeffebecghiaaDoorAcg
namespace Go.Proofs.YtieeffebecghiaaDoor
set_option maxRecDepth 100000
open Go.RowKit Go.Lib Go.Great

/-- What stands behind byte j. -/
def mkB (j : Nat) : UInt8 := if j = 3 then 58 else 46
theorem mkB_dig (j : Nat) : isDig (mkB j) = false := by unfold mkB; split <;> decide
def preM (N : List Nat) : Nat → List UInt8
  | 0 => []
  | j + 1 => preM N j ++ decL (N.getD j 0) ++ [mkB j]
def restK (N : List Nat) (p : Nat) : Nat → List UInt8
  | 0 => decL p
  | k + 1 => decL (N.getD (3 - k) 0) ++ mkB (3 - k) :: restK N p k
theorem pre_rest (N : List Nat) (p : Nat) : preM N 4 ++ decL p = restK N p 4 := by simp [preM, restK]
def NB (h : Nat) : List Nat := (putB h 4).map (·.toNat)
theorem NB_len (h : Nat) : (NB h).length = 4 := by simp [NB, putB_length]
theorem NB_le (h : Nat) : ∀ n ∈ NB h, n ≤ 255 := by
  intro n hn
  obtain ⟨b, _, rfl⟩ := List.mem_map.1 hn
  have := b.toNat_lt
  omega
theorem adT_rest (h p : Nat) : adT h p = restK (NB h) p 4 := by
  have e : ∀ j, (NB h).getD j 0 = ((putB h 4).getD j 0).toNat := fun j => by
    unfold NB
    rw [List.getD_eq_getElem?_getD, List.getD_eq_getElem?_getD, List.getElem?_map]
    cases (putB h 4)[j]? <;> rfl
  rw [adT_preX, ← pre_rest]
  simp only [preX, preM, mkB, e]
theorem preM_congr {N M : List Nat} : ∀ j, (∀ i, i < j → N.getD i 0 = M.getD i 0) → preM N j = preM M j
  | 0, _ => rfl
  | j + 1, h => by
    simp only [preM]
    rw [preM_congr j (fun i hi => h i (by omega)), h j (by omega)]
def hostF (N : List Nat) : Nat := N.foldl (fun a n => a * 256 + n) 0
theorem hostF_snoc (N : List Nat) (n : Nat) : hostF (N ++ [n]) = hostF N * 256 + n := by simp [hostF]
theorem hostF_lt : ∀ (j : Nat) (N : List Nat), N.length = j → (∀ n ∈ N, n ≤ 255) → hostF N < 256 ^ j
  | 0, N, h, _ => by
    have := List.eq_nil_of_length_eq_zero h
    subst this
    decide
  | j + 1, N, h, hb => by
    have hne : N ≠ [] := fun e => by rw [e] at h; simp at h
    obtain ⟨M, c, rfl⟩ : ∃ M c, N = M ++ [c] := ⟨N.dropLast, N.getLast hne, (List.dropLast_concat_getLast hne).symm⟩
    have hl : M.length = j := by simpa using h
    have := hostF_lt j M hl (fun n hn => hb n (by simp [hn]))
    have hc := hb c (by simp)
    rw [hostF_snoc, Nat.pow_succ]
    omega
theorem hostF_bytes (N : List Nat) (hl : N.length = 4) (hb : ∀ n ∈ N, n ≤ 255) : NB (hostF N) = N := by
  have key : ∀ (M : List Nat) (k : Nat), (∀ n ∈ M, n ≤ 255) → (M.map UInt8.ofNat).foldl (fun a b => a * 256 + b.toNat) k = M.foldl (fun a n => a * 256 + n) k := by
    intro M
    induction M with
    | nil => intro k _; rfl
    | cons x M ih =>
      intro k hb
      simp only [List.map_cons, List.foldl_cons]
      have hx := hb x (by simp)
      rw [ih _ (fun n hn => hb n (by simp [hn])), UInt8.toNat_ofNat', Nat.mod_eq_of_lt (by omega)]
  have hg : getN (N.map UInt8.ofNat) = hostF N := key N 0 hb
  have hp := putB_getN 4 (N.map UInt8.ofNat) (by simpa using hl)
  unfold NB
  rw [← hg, hp, List.map_map]
  conv => rhs; rw [← List.map_id N]
  apply List.map_congr_left
  intro n hn
  have := hb n hn
  simp only [Function.comp, id]
  rw [UInt8.toNat_ofNat', Nat.mod_eq_of_lt (by omega)]

/-- What is known behind j marks: the numbers so far, and the rest. -/
structure PInv (s : List UInt8) (j host : Nat) (r : List UInt8) : Prop where
  ex : ∃ N : List Nat, N.length = j ∧ (∀ n ∈ N, n ≤ 255) ∧ host = hostF N ∧ s = preM N j ++ r ∧ ∀ h p, h < 4294967296 → p < 65536 → adT h p = s → N = (NB h).take j ∧ r = restK (NB h) p (4 - j)
theorem PInv.start (s : List UInt8) : PInv s 0 0 s := ⟨⟨[], rfl, by simp, rfl, rfl, fun h p _ _ e => ⟨by simp, by rw [← e, adT_rest]⟩⟩⟩
theorem PInv.lt {s r : List UInt8} {j host : Nat} (h : PInv s j host r) : host < 256 ^ j ∧ r.length ≤ s.length := by
  obtain ⟨N, h1, h2, h3, h4, _⟩ := h.ex
  refine ⟨by rw [h3]; exact hostF_lt j N h1 h2, ?_⟩
  rw [h4, List.length_append]
  omega
theorem rest_succ (N : List Nat) (p j : Nat) (hj : j < 4) : restK N p (4 - j) = decL (N.getD j 0) ++ mkB j :: restK N p (4 - (j + 1)) := by
  have e : 4 - j = (4 - (j + 1)) + 1 := by omega
  rw [e]
  simp only [restK]
  have e2 : 3 - (4 - (j + 1)) = j := by omega
  rw [e2]
theorem PInv.step {s r a b : List UInt8} {j host n : Nat} (h : PInv s j host r) (hj : j < 4) (hr : r = a ++ mkB j :: b) (ha : mkB j ∉ a) (hn : n ≤ 255) (hd : decL n = a) : PInv s (j + 1) (host * 256 + n) b := by
  obtain ⟨N, h1, h2, h3, h4, h5⟩ := h.ex
  refine ⟨⟨N ++ [n], by simp [h1], ?_, by rw [hostF_snoc, h3], ?_, ?_⟩⟩
  · intro m hm
    rcases List.mem_append.1 hm with hm | hm
    · exact h2 m hm
    · simp at hm
      omega
  · have e1 : preM (N ++ [n]) j = preM N j := preM_congr j (fun i hi => by rw [List.getD_eq_getElem?_getD, List.getElem?_append_left (by omega), List.getD_eq_getElem?_getD])
    have e2 : (N ++ [n]).getD j 0 = n := by rw [List.getD_eq_getElem?_getD, List.getElem?_append_right (by omega), h1]; simp
    simp only [preM]
    rw [e1, e2, hd, h4, hr]
    simp
  · intro h' p' hh hp e
    obtain ⟨k1, k2⟩ := h5 h' p' hh hp e
    rw [rest_succ _ _ _ hj, hr] at k2
    obtain ⟨q1, q2⟩ := split_at ha (dec_mark _ _ (mkB_dig j)) k2
    rw [← hd] at q1
    have q3 := decL_inj q1
    refine ⟨?_, q2⟩
    have hl := NB_len h'
    rw [List.take_succ_eq_append_getElem (by omega), ← k1, q3, List.getD_eq_getElem?_getD, List.getElem?_eq_getElem (by omega)]
    rfl
theorem PInv.none {s r : List UInt8} {j host : Nat} (h : PInv s j host r) (hj : j < 4) (hr : mkB j ∉ r ∨ ∃ a b, r = a ++ mkB j :: b ∧ mkB j ∉ a ∧ ∀ m, m ≤ 255 → decL m ≠ a) : ∀ h p, h < 4294967296 → p < 65536 → adT h p ≠ s := by
  intro h' p' hh hp e
  obtain ⟨N, h1, h2, h3, h4, h5⟩ := h.ex
  obtain ⟨k1, k2⟩ := h5 h' p' hh hp e
  rw [rest_succ _ _ _ hj] at k2
  have hle : (NB h').getD j 0 ≤ 255 := by
    have hl := NB_len h'
    rw [List.getD_eq_getElem?_getD, List.getElem?_eq_getElem (by omega)]
    exact NB_le h' _ (List.getElem_mem _)
  rcases hr with hr | ⟨a, b, hr, ha, hm⟩
  · exact hr (by rw [k2]; simp)
  · rw [hr] at k2
    obtain ⟨q1, _⟩ := split_at ha (dec_mark _ _ (mkB_dig j)) k2
    exact hm _ hle q1.symm
theorem PInv.last {s r : List UInt8} {host p : Nat} (h : PInv s 4 host r) (hp : p ≤ 65535) (hd : decL p = r) : host < 4294967296 ∧ adT host p = s := by
  have hlt := h.lt.1
  obtain ⟨N, h1, h2, h3, h4, h5⟩ := h.ex
  refine ⟨hlt, ?_⟩
  rw [adT_rest, h3, hostF_bytes N h1 h2, ← pre_rest, hd, ← h4]
theorem PInv.bad {s r : List UInt8} {host : Nat} (h : PInv s 4 host r) (hd : ∀ m, m ≤ 65535 → decL m ≠ r) : ∀ h p, h < 4294967296 → p < 65536 → adT h p ≠ s := by
  intro h' p' hh hp e
  obtain ⟨N, h1, h2, h3, h4, h5⟩ := h.ex
  obtain ⟨k1, k2⟩ := h5 h' p' hh hp e
  exact hd p' (by omega) k2.symm
end Go.Proofs.YtieeffebecghiaaDoor
