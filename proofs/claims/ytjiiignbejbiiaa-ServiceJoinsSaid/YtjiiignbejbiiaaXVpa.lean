/- Names of services: plain. No condition. -/
import Derived.Test.YtjiiignbejbiiaaXLpa
namespace Go.Proofs.Ytjiiignbejbiiaa
set_option maxRecDepth 100000
def tcpL : List UInt8 := [95, 116, 99, 112]
def udpL : List UInt8 := [95, 117, 100, 112]
/-- A service's name. -/
def svcL (s : List UInt8) : Bool := goodL s && (decide (3 ≤ (splitD s).length) && (decide (2 ≤ (splitD s)[0]!.length ∧ (splitD s)[0]![0]! = 95) && (foldL (splitD s)[1]! == tcpL || foldL (splitD s)[1]! == udpL)))
theorem foldC_95 (c : UInt8) : foldC c = 95 ↔ c = 95 := by
  rw [foldC]
  split
  · rename_i h
    constructor
    · intro e
      have := congrArg UInt8.toNat e
      rw [UInt8.toNat_add] at this
      simp at this
      omega
    · rintro rfl
      exact absurd h (by decide)
  · exact Iff.rfl
theorem map_get (L : List (List UInt8)) (i : Nat) : (L.map foldL)[i]! = foldL L[i]! := by
  by_cases h : i < L.length
  · rw [getElem!_pos (L.map foldL) i (by simpa using h), getElem!_pos L i h]
    simp
  · rw [getElem!_neg (L.map foldL) i (by simpa using h), getElem!_neg L i h]
    rfl
theorem svc_fold (s : List UInt8) : svcL (foldL s) = svcL s := by
  unfold svcL
  rw [goodL_fold, splitD_fold, List.length_map, map_get, map_get, foldL_foldL, foldL_length]
  congr 2
  congr 1
  rw [Bool.eq_iff_iff, decide_eq_true_iff, decide_eq_true_iff]
  refine and_congr_right fun h => ?_
  rw [foldL_get _ 0 (by omega), foldC_95]
theorem svc_same {s t : List UInt8} (h : foldL s = foldL t) : svcL s = svcL t := by rw [← svc_fold s, h, svc_fold]
theorem svc_iff (s : List UInt8) : svcL s = true ↔ goodL s = true ∧ 3 ≤ (splitD s).length ∧ (2 ≤ (splitD s)[0]!.length ∧ (splitD s)[0]![0]! = 95) ∧ (foldL (splitD s)[1]! = tcpL ∨ foldL (splitD s)[1]! = udpL) := by
  unfold svcL
  simp [Bool.and_eq_true]
/-- What Split tells. -/
def splitS (s : List UInt8) : List UInt8 × List UInt8 × List UInt8 × Int := if svcL s then ((splitD s)[0]!.drop 1, (splitD s)[1]!.drop 1, joinD ((splitD s).drop 2), 0) else ([], [], [], 40)
theorem three (L : List (List UInt8)) (h : 3 ≤ L.length) : L = L[0]! :: L[1]! :: L.drop 2 := by
  match L, h with
  | a :: b :: c :: r, _ => rfl
theorem split_rest (s : List UInt8) (h : 3 ≤ (splitD s).length) : s.drop ((splitD s)[0]!.length + (splitD s)[1]!.length + 2) = joinD ((splitD s).drop 2) := by
  have h1 := three _ h
  have h2 : (splitD s).drop 2 ≠ [] := fun e => by
    have := congrArg List.length e
    rw [List.length_drop] at this
    simp at this
    omega
  have h3 := joinD_split s
  generalize (splitD s)[0]! = a at *
  generalize (splitD s)[1]! = b at *
  generalize (splitD s).drop 2 = r at *
  rw [h1, joinD_cons (by simp), joinD_cons h2] at h3
  rw [← h3, show a ++ 46 :: (b ++ 46 :: joinD r) = (a ++ 46 :: b ++ [46]) ++ joinD r by simp]
  rw [List.drop_left' (by simp; omega)]
/-- Three texts joined. -/
def rawJ (a b c : List UInt8) : List UInt8 := joinD [95 :: a, 95 :: b, c]
theorem rawJ_eq (a b c : List UInt8) : rawJ a b c = 95 :: a ++ 46 :: 95 :: b ++ 46 :: c := by simp [rawJ, joinD]
theorem rawJ_length (a b c : List UInt8) : (rawJ a b c).length = a.length + b.length + c.length + 4 := by rw [rawJ_eq]; simp; omega
/-- What Join tells. -/
def joinS (a b c : List UInt8) : List UInt8 × Int := if splitS (rawJ a b c) = (a, b, c, 0) then (rawJ a b c, 0) else ([], 40)
theorem join_split (s : List UInt8) (h : svcL s = true) : joinS ((splitD s)[0]!.drop 1) ((splitD s)[1]!.drop 1) (joinD ((splitD s).drop 2)) = (s, 0) := by
  obtain ⟨_, h3, ⟨h4, h5⟩, h6⟩ := (svc_iff s).1 h
  have h1 := three _ h3
  have h2 : (splitD s).drop 2 ≠ [] := fun e => by
    have := congrArg List.length e
    rw [List.length_drop] at this
    simp at this
    omega
  have hj := joinD_split s
  have e0 : (splitD s)[0]! = (95 : UInt8) :: (splitD s)[0]!.drop 1 := by
    match hq : (splitD s)[0]!, h4 with
    | x :: y :: r, _ =>
      rw [hq] at h5
      obtain rfl : x = 95 := h5
      rfl
  have e1 : (splitD s)[1]! = (95 : UInt8) :: (splitD s)[1]!.drop 1 := by
    have hf : ∃ c r, (splitD s)[1]! = c :: r ∧ foldC c = 95 := by
      match hq : (splitD s)[1]! with
      | [] => rw [hq] at h6; simp [foldL, tcpL, udpL] at h6
      | c :: r =>
        rw [hq] at h6
        refine ⟨c, r, rfl, ?_⟩
        rcases h6 with h6 | h6
        · exact (List.cons.inj h6).1
        · exact (List.cons.inj h6).1
    obtain ⟨c, r, hq, hc⟩ := hf
    rw [foldC_95] at hc
    rw [hq, hc]
    rfl
  have hr : rawJ ((splitD s)[0]!.drop 1) ((splitD s)[1]!.drop 1) (joinD ((splitD s).drop 2)) = s := by
    rw [rawJ_eq]
    conv => rhs; rw [← hj, h1, joinD_cons (by simp), joinD_cons h2, e0, e1]
    simp
  rw [joinS, hr, if_pos (by rw [splitS, h, if_pos rfl])]
theorem join_same {a b c x : List UInt8} (h : joinS a b c = (x, 0)) : splitS x = (a, b, c, 0) := by
  rw [joinS] at h
  split at h
  · rename_i h1
    injection h with h2
    rw [← h2]
    exact h1
  · injection h with _ h2
    cases h2
/-- What Canon tells. -/
def canonS (s : List UInt8) : List UInt8 × Int := if svcL s then (foldL s, 0) else ([], 40)
theorem splitS_good (s : List UInt8) : (splitS s).2.2.2 = 0 ↔ svcL s = true := by
  unfold splitS
  cases svcL s <;> simp
end Go.Proofs.Ytjiiignbejbiiaa
