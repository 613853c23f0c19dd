/- Contract of Under of signpostref09. Conditions: at most 100,000 bytes. -/
import Derived.Test.YtjiiignbejbiiaaXLrd
import Derived.Deep.Cut
import Derived.Deep.QuietTactic
namespace Go.Proofs.Ytjiiignbejbiiaa
open Go.Shelf Go.RowKit Go.Lib Go.Great
set_option maxRecDepth 100000
set_option maxHeartbeats 1000000
theorem suffix_tail {L M : List (List UInt8)} : (M <:+ L) ↔ M.length ≤ L.length ∧ ∀ j, 1 ≤ j → j ≤ M.length → L[L.length - j]! = M[M.length - j]! := by
  constructor
  · rintro ⟨a, rfl⟩
    refine ⟨by simp, fun j h1 h2 => ?_⟩
    rw [getElem!_pos (a ++ M) _ (by simp; omega), getElem!_pos M _ (by omega), List.getElem_append_right (by simp; omega)]
    congr 1
    simp; omega
  · rintro ⟨h1, h2⟩
    rw [List.suffix_iff_eq_drop]
    apply List.ext_getElem (by rw [List.length_drop]; omega)
    intro i hi hi2
    have := h2 (M.length - i) (by omega) (by omega)
    rw [getElem!_pos L _ (by omega), getElem!_pos M _ (by omega)] at this
    rw [List.getElem_drop]
    simp only [show M.length - (M.length - i) = i from by omega] at this
    rw [← this]
    congr 1
    omega
def RUnderR (L M : List (List UInt8)) (w wr0 : World) (i : Value) (wr : World) : Prop := ∃ k : Nat, i = .int .i64 (k : Int) ∧ 1 ≤ k ∧ k ≤ M.length + 1 ∧ (∀ j, 1 ≤ j → j < k → L[L.length - j]! = M[M.length - j]!) ∧ Below wr0.heap.size wr0 wr
theorem runder_any (s z : List UInt8) (ls : s.length ≤ 100000) (lz : z.length ≤ 100000) (w : World) : Calls Try.prog 22 #[.string (bstr s), .string (bstr z)] w fun e w' => e = .returned (.bool (underL s z)) ∧ Below w.heap.size w w' := by
  have F1 : Hid (Calls Try.prog 19 #[.string (bstr s)] w fun e w' => e = .returned (.string (bstr (foldL s))) ∧ Below w.heap.size w w') := Lib.hid (rfold_any s ls w)
  have P1 : Hid (∀ W, Below w.heap.size w W → Calls Try.prog 17 #[.string (bstr (foldL s))] W fun e w' => ∃ A c, e = .returned (.slice A (splitD (foldL s)).length c) ∧ (splitD (foldL s)).length ≤ c ∧ SAt w' w'.heap.size A (splitD (foldL s)) ∧ Below w.heap.size w w') := Lib.hid (fun W hW => (rparts_at (foldL s) (by rw [foldL_length]; exact ls) W).mono (by
    rintro e w' ⟨A, c, rfl, h1, h2, h3⟩
    exact ⟨A, c, rfl, h1, h2, hW.trans (h3.mono hW.size)⟩))
  have F2 : Hid (∀ W A L, SAt W W.heap.size A L → Below w.heap.size w W → Calls Try.prog 19 #[.string (bstr z)] W fun e w' => e = .returned (.string (bstr (foldL z))) ∧ Below w.heap.size w w' ∧ SAt w' w'.heap.size A L) := Lib.hid (fun W A L h hb => by
    refine (rfold_any z lz W).mono ?_
    rintro e w' ⟨rfl, h2⟩
    exact ⟨rfl, hb.trans (h2.mono hb.size), (h.below h2).more h2.size⟩)
  have P2 : Hid (∀ W A L, SAt W W.heap.size A L → Below w.heap.size w W → Calls Try.prog 17 #[.string (bstr (foldL z))] W fun e w' => ∃ A2 c2, e = .returned (.slice A2 (splitD (foldL z)).length c2) ∧ (splitD (foldL z)).length ≤ c2 ∧ SAt w' w'.heap.size A2 (splitD (foldL z)) ∧ SAt w' w'.heap.size A L ∧ Below w.heap.size w w') := Lib.hid (fun W A L h hW => by
    refine (rparts_at (foldL z) (by rw [foldL_length]; exact lz) W).mono ?_
    rintro e w' ⟨A2, c, rfl, h3, h4, h2⟩
    exact ⟨A2, c, rfl, h3, h4, (h.below h2).more h2.size, hW.trans (h2.mono hW.size)⟩)
  have G1 : Hid (∀ W A L A2 L2, SAt W W.heap.size A L → SAt W W.heap.size A2 L2 → Below w.heap.size w W → Calls Try.prog 14 #[.string (bstr s)] W fun e w' => e = .returned (.bool (goodL s)) ∧ Below w.heap.size w w' ∧ SAt w' w'.heap.size A L ∧ SAt w' w'.heap.size A2 L2) := Lib.hid (fun W A L A2 L2 h h' hb => by
    refine (rgood_any s ls W).mono ?_
    rintro e w' ⟨rfl, h2⟩
    exact ⟨rfl, hb.trans (h2.mono hb.size), (h.below h2).more h2.size, (h'.below h2).more h2.size⟩)
  have G2 : Hid (∀ W A L A2 L2, SAt W W.heap.size A L → SAt W W.heap.size A2 L2 → Below w.heap.size w W → Calls Try.prog 14 #[.string (bstr z)] W fun e w' => e = .returned (.bool (goodL z)) ∧ Below w.heap.size w w' ∧ SAt w' w'.heap.size A L ∧ SAt w' w'.heap.size A2 L2) := Lib.hid (fun W A L A2 L2 h h' hb => by
    refine (rgood_any z lz W).mono ?_
    rintro e w' ⟨rfl, h2⟩
    exact ⟨rfl, hb.trans (h2.mono hb.size), (h.below h2).more h2.size, (h'.below h2).more h2.size⟩)
  have HU : Hid (underL s z = (goodL s && goodL z && decide (splitD (foldL z) <:+ splitD (foldL s)))) := Lib.hid (by
    rw [Bool.eq_iff_iff, underL_iff]
    simp [and_assoc])
  rw [HU.out]
  have b1 := splitD_length_le (foldL s)
  have b2 := splitD_length_le (foldL z)
  rw [foldL_length] at b1 b2
  have HSU := Lib.hid (suffix_tail (L := splitD (foldL s)) (M := splitD (foldL z)))
  clear HU
  generalize splitD (foldL s) = L at *
  generalize splitD (foldL z) = M at *
  generalize bstr (foldL s) = FS at *
  generalize bstr (foldL z) = FZ at *
  generalize bstr s = S at *
  generalize bstr z = Z at *
  generalize goodL s = gs at *
  generalize goodL z = gz at *
  obtain ⟨l, hl⟩ : ∃ l, l = L.length := ⟨_, rfl⟩
  obtain ⟨m, hm⟩ : ∃ m, m = M.length := ⟨_, rfl⟩
  rw [← hm] at P2
  rw [← hl] at P1
  have HL := Lib.hid hl
  have HM := Lib.hid hm
  rw [← hl] at b1
  rw [← hm] at b2
  clear hl hm
  have hneg : ∀ x : Bool, x = false → (!x) = true := fun x h => by rw [h]; rfl
  clear hneg
  cases gs
  · simp only [Bool.false_and]
    go_enter Try.func22, Try.ntmps22
    go_wp2_with (first
      | (go_at_call 19; (with_reducible refine F1.out.mono ?_); rintro e w1 ⟨rfl, hb1⟩)
      | (go_at_call 17; (with_reducible refine (P1.out _ hb1).mono ?_); rintro e w2 ⟨A, c, rfl, hc2, hA2, hb2⟩)
      | (go_at_call 19; (with_reducible refine (F2.out _ A L hA2 hb2).mono ?_); rintro e w3 ⟨rfl, hb3, hA3⟩)
      | (go_at_call 17; (with_reducible refine (P2.out _ A L hA3 hb3).mono ?_); rintro e w4 ⟨A2, c2, rfl, hc4, hM4, hA4, hb4⟩)
      | (go_at_call 14; (with_reducible refine (G1.out _ A L A2 M hA4 hM4 hb4).mono ?_); rintro e w5 ⟨rfl, hb5, hA5, hM5⟩))
    go_ret
    exact ⟨rfl, hb5⟩
  · cases gz
    · simp only [Bool.and_false, Bool.false_and]
      go_enter Try.func22, Try.ntmps22
      go_wp2_with (first
        | (go_at_call 19; (with_reducible refine F1.out.mono ?_); rintro e w1 ⟨rfl, hb1⟩)
        | (go_at_call 17; (with_reducible refine (P1.out _ hb1).mono ?_); rintro e w2 ⟨A, c, rfl, hc2, hA2, hb2⟩)
        | (go_at_call 19; (with_reducible refine (F2.out _ A L hA2 hb2).mono ?_); rintro e w3 ⟨rfl, hb3, hA3⟩)
        | (go_at_call 17; (with_reducible refine (P2.out _ A L hA3 hb3).mono ?_); rintro e w4 ⟨A2, c2, rfl, hc4, hM4, hA4, hb4⟩)
        | (go_at_call 14; (with_reducible refine (G1.out _ A L A2 M hA4 hM4 hb4).mono ?_); rintro e w5 ⟨rfl, hb5, hA5, hM5⟩)
        | (go_at_call 14; (with_reducible refine (G2.out _ A L A2 M hA5 hM5 hb5).mono ?_); rintro e w6 ⟨rfl, hb6, hA6, hM6⟩))
      go_ret
      exact ⟨rfl, hb6⟩
    · simp only [Bool.true_and]
      by_cases hlm : m ≤ l
      · have hlm' : ¬ (l : Int) < (m : Int) := by omega
        go_enter Try.func22, Try.ntmps22
        go_upto_region 6 with (first
          | (go_at_call 19; (with_reducible refine F1.out.mono ?_); rintro e w1 ⟨rfl, hb1⟩)
          | (go_at_call 17; (with_reducible refine (P1.out _ hb1).mono ?_); rintro e w2 ⟨A, c, rfl, hc2, hA2, hb2⟩)
          | (go_at_call 19; (with_reducible refine (F2.out _ A L hA2 hb2).mono ?_); rintro e w3 ⟨rfl, hb3, hA3⟩)
          | (go_at_call 17; (with_reducible refine (P2.out _ A L hA3 hb3).mono ?_); rintro e w4 ⟨A2, c2, rfl, hc4, hM4, hA4, hb4⟩)
          | (go_at_call 14; (with_reducible refine (G1.out _ A L A2 M hA4 hM4 hb4).mono ?_); rintro e w5 ⟨rfl, hb5, hA5, hM5⟩)
          | (go_at_call 14; (with_reducible refine (G2.out _ A L A2 M hA5 hM5 hb5).mono ?_); rintro e w6 ⟨rfl, hb6, hA6, hM6⟩))
        have R0 : Hid (RUnderR L M w w6 (.int .i64 1) w6) := Lib.hid ⟨1, rfl, by omega, by omega, fun j h1 h2 => absurd h2 (by omega), Below.refl _ _⟩
        have HA6 := Lib.hid hA6
        have HM6 := Lib.hid hM6
        have HB6 := Lib.hid hb6
        clear F1 P1 F2 P2 G1 G2 hb1 hA2 hb2 hb3 hA3 hM4 hA4 hb4 hb5 hA5 hM5 hb6 hA6 hM6
        go_loopw [7] (RUnderR L M w w6) (fun i _ => m + 1 - (RowKit.intOf i).toNat)
        case atStart => exact R0.out
        case round =>
          obtain ⟨k, rfl, hk1, hk2, hF, hb⟩ := hrel
          rw [← HM.out] at hk2
          clear R0
          have HF := Lib.hid hF
          have HBW := Lib.hid hb
          have HBX := Lib.hid (HB6.out.trans (hb.mono HB6.out.size))
          clear hF hb
          by_cases hlt : k ≤ m
          · have hlt' : (k : Int) ≤ (m : Int) := by omega
            obtain ⟨x, hx⟩ : ∃ x, l = x + k := ⟨l - k, by omega⟩
            obtain ⟨y, hy⟩ : ∃ y, m = y + k := ⟨m - k, by omega⟩
            have hxs : (l : Int) - (k : Int) = (x : Int) := by omega
            have hys : (m : Int) - (k : Int) = (y : Int) := by omega
            have hxl : (x : Int) < (l : Int) := by omega
            have hyl : (y : Int) < (m : Int) := by omega
            have hxL : x < L.length := by rw [← HL.out]; omega
            have hyM : y < M.length := by rw [← HM.out]; omega
            rcases HA6.out.below HBW.out with h0 | ⟨g1, o1, rfl, hg1, hcell1⟩
            · exact absurd (congrArg List.length h0) (by rw [← HL.out]; simp; omega)
            rcases HM6.out.below HBW.out with h0 | ⟨g2, o2, rfl, hg2, hcell2⟩
            · exact absurd (congrArg List.length h0) (by rw [← HM.out]; simp; omega)
            have hc1 := hcell1 x hxL
            have hc2 := hcell2 y hyM
            have hgx : L[L.length - k]! = L[x] := by rw [← HL.out, show l - k = x by omega, getElem!_pos L x hxL]
            have hgy : M[M.length - k]! = M[y] := by rw [← HM.out, show m - k = y by omega, getElem!_pos M y hyM]
            have HNX : Hid (L[x] = M[y] → ∀ nq, RUnderR L M w w6 (.int .i64 ((k : Int) + 1)) (wr.drewN nq)) := Lib.hid (fun h nq => ⟨k + 1, by simp, by omega, by rw [← HM.out]; omega, fun j h1 h2 => by
              by_cases e : j = k
              · subst e; rw [hgx, hgy]; exact h
              · exact HF.out j h1 (by omega), below_drewN HBW.out nq⟩)
            have HST : Hid (L[x] ≠ M[y] → decide (M <:+ L) = false) := Lib.hid (fun h => decide_eq_false (fun hs => h (by
              rw [← hgx, ← hgy]
              exact (HSU.out.1 hs).2 k hk1 (by rw [← HM.out]; exact hlt))))
            have hbl := bstr_list
            clear hcell1 hcell2 hgx hgy HF HA6 HM6
            unfold encT at hc1 hc2
            generalize L[x] = p at *
            generalize M[y] = q at *
            clear hxL hyM
            by_cases hpq : p = q
            · have hpb : (p == q) = true := by simpa using hpq
              have HNX2 := Lib.hid (HNX.out hpq)
              clear hpq HNX HST
              go_upto_region 8 with fail
              go_quiet (fail)
              go_wp2
              exact ⟨HNX2.out _, by simp [RowKit.intOf]; omega⟩
            · have hpb : (p == q) = false := by simpa using hpq
              have HF2 := Lib.hid (HST.out hpq)
              clear hpq HNX HST
              go_upto_region 8 with fail
              go_quiet (fail)
              go_wp2
              go_ret
              exact ⟨by rw [HF2.out]; rfl, below_drewN HBX.out _⟩
          · obtain rfl : k = m + 1 := by omega
            have HT : Hid (decide (M <:+ L) = true) := Lib.hid (decide_eq_true (HSU.out.2 ⟨by rw [← HL.out, ← HM.out]; exact hlm, fun j h1 h2 => HF.out j h1 (by rw [HM.out]; omega)⟩))
            have hlt' : ¬ ((m : Int) + 1) ≤ (m : Int) := by omega
            clear HF
            go_wp2
            go_ret
            exact ⟨by rw [HT.out]; rfl, HBX.out⟩
      · have hlm' : (l : Int) < (m : Int) := by omega
        have HFA : Hid (decide (M <:+ L) = false) := Lib.hid (decide_eq_false (fun h => hlm (by rw [HL.out, HM.out]; exact h.length_le)))
        rw [HFA.out]
        go_enter Try.func22, Try.ntmps22
        go_wp2_with (first
          | (go_at_call 19; (with_reducible refine F1.out.mono ?_); rintro e w1 ⟨rfl, hb1⟩)
          | (go_at_call 17; (with_reducible refine (P1.out _ hb1).mono ?_); rintro e w2 ⟨A, c, rfl, hc2, hA2, hb2⟩)
          | (go_at_call 19; (with_reducible refine (F2.out _ A L hA2 hb2).mono ?_); rintro e w3 ⟨rfl, hb3, hA3⟩)
          | (go_at_call 17; (with_reducible refine (P2.out _ A L hA3 hb3).mono ?_); rintro e w4 ⟨A2, c2, rfl, hc4, hM4, hA4, hb4⟩)
          | (go_at_call 14; (with_reducible refine (G1.out _ A L A2 M hA4 hM4 hb4).mono ?_); rintro e w5 ⟨rfl, hb5, hA5, hM5⟩)
          | (go_at_call 14; (with_reducible refine (G2.out _ A L A2 M hA5 hM5 hb5).mono ?_); rintro e w6 ⟨rfl, hb6, hA6, hM6⟩))
        go_ret
        exact ⟨rfl, hb6⟩
end Go.Proofs.Ytjiiignbejbiiaa
