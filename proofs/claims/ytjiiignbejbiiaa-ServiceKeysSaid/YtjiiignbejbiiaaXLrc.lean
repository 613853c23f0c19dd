/- Contracts of Good and Fold of signpostref09. Conditions: at most 100,000 bytes. -/
import Derived.Test.YtjiiignbejbiiaaXLra
import Derived.Test.YtjiiignbejbiiaaXLrb
namespace Go.Proofs.Ytjiiignbejbiiaa
open Go.Shelf Go.RowKit Go.Lib Go.Great
set_option maxRecDepth 100000
set_option maxHeartbeats 1000000
def RGoodR (L : List (List UInt8)) (W1 : World) (i : Value) (wr : World) : Prop := ∃ k : Nat, i = .int .i64 (k : Int) ∧ k ≤ L.length ∧ (∀ j, j < k → partL L[j]! = true) ∧ Below W1.heap.size W1 wr
theorem rparts_at (s : List UInt8) (hs : s.length ≤ 100000) (w : World) : Calls Try.prog 17 #[.string (bstr s)] w fun e w' => ∃ A c, e = .returned (.slice A (splitD s).length c) ∧ (splitD s).length ≤ c ∧ SAt w' w'.heap.size A (splitD s) ∧ Below w.heap.size w w' := by
  refine (rparts_any s hs w).mono ?_
  rintro e w' ⟨v, rfl, h1, h2⟩
  obtain ⟨A, c, rfl, h3, h4⟩ := h1.at_
  exact ⟨A, c, rfl, h3, h4, h2⟩
theorem rgood_any (s : List UInt8) (hs : s.length ≤ 100000) (w : World) : Calls Try.prog 14 #[.string (bstr s)] w fun e w' => e = .returned (.bool (goodL s)) ∧ Below w.heap.size w w' := by
  have hsz := bstr_size s
  have HP := Lib.hid (rparts_at s hs w)
  have HG := Lib.hid (goodL_iff s)
  have HLE := Lib.hid (splitD_length_le s)
  have HML : Hid (∀ p ∈ splitD s, p.length ≤ 100000) := Lib.hid (fun p hp => by
    have h1 : p.length + 1 ≤ sizeD (splitD s) := by
      obtain ⟨a, b, e⟩ := List.append_of_mem hp
      rw [e, sizeD_append, sizeD_cons]
      omega
    rw [sizeD_split] at h1
    omega)
  generalize splitD s = L at *
  obtain ⟨n, hn⟩ : ∃ n, n = s.length := ⟨_, rfl⟩
  rw [← hn] at hsz hs HG HLE
  generalize goodL s = g at *
  clear hn
  generalize bstr s = B at *
  go_enter Try.func14, Try.ntmps14
  go_upto_region 3 with (go_at_call 17; (with_reducible refine HP.out.mono ?_); rintro e w1 ⟨A, c, rfl, hc, hA, hb1⟩)
  have R0 : Hid (RGoodR L w1 (.int .i64 0) w1) := Lib.hid ⟨0, rfl, by omega, fun j hj => absurd hj (by omega), Below.refl _ _⟩
  have HA := Lib.hid hA
  have HB1 := Lib.hid hb1
  clear HP hA hb1
  obtain ⟨m, hm⟩ : ∃ m, m = L.length := ⟨_, rfl⟩
  rw [← hm] at hc ⊢
  have HM := Lib.hid hm
  clear hm
  have hm2 : m ≤ n + 1 := by rw [HM.out]; exact HLE.out
  go_loopw [4] (RGoodR L w1) (fun i _ => m - (RowKit.intOf i).toNat)
  case atStart => exact R0.out
  case round =>
    obtain ⟨k, rfl, hk, hF, hb⟩ := hrel
    rw [← HM.out] at hk
    clear R0
    have HF := Lib.hid hF
    have HBW := Lib.hid hb
    have HBX := Lib.hid (HB1.out.trans (hb.mono HB1.out.size))
    clear hF hb
    by_cases hlt : k < m
    · have hlt' : (k : Int) < (m : Int) := by omega
      have hls : k < L.length := by rw [← HM.out]; exact hlt
      rcases HA.out.below HBW.out with h0 | ⟨g0, off, rfl, hg0, hcell⟩
      · exact absurd (congrArg List.length h0) (by rw [← HM.out]; simp; omega)
      have hc1 := hcell k hls
      have hgl : L[k]! = L[k] := getElem!_pos L k hls
      have HPA := Lib.hid (rpart_any L[k] (HML.out _ (List.getElem_mem hls)) wr)
      have HNX : Hid (partL L[k] = true → ∀ wx, Below wr.heap.size wr wx → RGoodR L w1 (.int .i64 ((k : Int) + 1)) wx) := Lib.hid (fun h wx hx => ⟨k + 1, by simp, by rw [← HM.out]; omega, fun j hj => by
        by_cases e : j = k
        · subst e; rw [hgl]; exact h
        · exact HF.out j (by omega), HBW.out.trans (hx.mono HBW.out.size)⟩)
      have HST : Hid (partL L[k] = false → g = false) := Lib.hid (fun h => by
        rw [← Bool.not_eq_true]
        intro hg
        have := (HG.out.1 hg).1 L[k] (List.getElem_mem hls)
        rw [h] at this
        cases this)
      clear hcell hgl HF HA HM HG HLE hk
      unfold encT at hc1
      generalize L[k] = p at *
      cases hp : partL p
      · rw [hp] at HPA
        have hgf := HST.out hp
        clear hp HST HNX
        go_wp2_with (go_at_call 12; (with_reducible refine HPA.out.mono ?_); rintro e w2 ⟨rfl, hb2⟩)
        go_ret
        exact ⟨by simp [hgf], HBX.out.trans (hb2.mono HBX.out.size)⟩
      · rw [hp] at HPA
        have HP2 := Lib.hid hp
        clear hp HST
        go_wp2_with (go_at_call 12; (with_reducible refine HPA.out.mono ?_); rintro e w2 ⟨rfl, hb2⟩)
        exact ⟨HNX.out HP2.out _ hb2, by simp [RowKit.intOf]; omega⟩
    · obtain rfl : k = m := by omega
      have hnl : ¬ (k : Int) < (k : Int) := by omega
      have HALL : Hid (∀ p ∈ L, partL p = true) := Lib.hid (fun p hp => by
        obtain ⟨i, hi, rfl⟩ := List.mem_iff_getElem.1 hp
        have := HF.out i (by rw [HM.out]; exact hi)
        rwa [getElem!_pos L i hi] at this)
      by_cases h253 : n ≤ 253
      · have hgt : g = true := HG.out.2 ⟨HALL.out, h253⟩
        have h' : (n : Int) + 2 ≤ 255 := by omega
        clear HA HF HG HALL
        go_wp2
        go_ret
        exact ⟨by simp [hgt]; try omega, HBX.out⟩
      · have hgt : g = false := by
          rw [← Bool.not_eq_true]
          intro h
          exact h253 (HG.out.1 h).2
        have h' : ¬ (n : Int) + 2 ≤ 255 := by omega
        clear HA HF HG HALL
        go_wp2
        go_ret
        exact ⟨by simp [hgt]; try omega, HBX.out⟩
end Go.Proofs.Ytjiiignbejbiiaa
