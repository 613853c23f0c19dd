/- Contracts of Texts of the statements. Conditions: at most 100,000 bytes. -/
import Derived.Test.YtjiiignbejbiiaaLrd
import Derived.Deep.Cut
import Derived.Deep.QuietTactic
namespace Go.Proofs.Ytjiiignbejbiiaa
open Go.Shelf Go.RowKit Go.Lib Go.Great
set_option maxRecDepth 100000
set_option maxHeartbeats 1000000
def TextsR (L M : List (List UInt8)) (w : World) (i : Value) (wr : World) : Prop := ∃ k : Nat, i = .int .i64 (k : Int) ∧ k ≤ L.length ∧ (∀ j, j < k → L[j]! = M[j]!) ∧ Below w.heap.size w wr
theorem texts_any (A A2 : Option Addr) (c c2 : Nat) (L M : List (List UInt8)) (hL : L.length ≤ 1000000) (hM : M.length ≤ 1000000) (w : World) (h1 : SAt w w.heap.size A L) (h2 : SAt w w.heap.size A2 M) : Calls Try.prog 15 #[.slice A L.length c, .slice A2 M.length c2] w fun e w' => e = .returned (.bool (decide (L = M))) ∧ Below w.heap.size w w' := by
  have HEX : Hid (L.length = M.length → (∀ j, j < L.length → L[j]! = M[j]!) → L = M) := Lib.hid (fun hl h => List.ext_getElem hl (fun i hi hi2 => by
    have := h i hi
    rwa [getElem!_pos L i hi, getElem!_pos M i hi2] at this))
  obtain ⟨l, hl⟩ : ∃ l, l = L.length := ⟨_, rfl⟩
  obtain ⟨m, hm⟩ : ∃ m, m = M.length := ⟨_, rfl⟩
  have HL := Lib.hid hl
  have HM := Lib.hid hm
  have H1 := Lib.hid h1
  have H2 := Lib.hid h2
  rw [← hl] at hL HEX ⊢
  rw [← hm] at hM HEX ⊢
  clear hl hm h1 h2
  by_cases hlm : l = m
  · subst hlm
    have R0 : Hid (TextsR L M w (.int .i64 0) w) := Lib.hid ⟨0, rfl, by omega, fun j h1 => absurd h1 (by omega), Below.refl _ _⟩
    go_enter Try.func15, Try.ntmps15
    go_upto_region 4 with fail
    go_loopw [13] (TextsR L M w) (fun i _ => l - (RowKit.intOf i).toNat)
    case atStart => exact R0.out
    case round =>
      obtain ⟨k, rfl, hk, hF, hb⟩ := hrel
      rw [← HL.out] at hk
      clear R0
      have HF := Lib.hid hF
      have HBW := Lib.hid hb
      clear hF hb
      by_cases hlt : k < l
      · have hlt' : (k : Int) < (l : Int) := by omega
        have hkL : k < L.length := by rw [← HL.out]; omega
        have hkM : k < M.length := by rw [← HM.out]; omega
        rcases H1.out.below HBW.out with h0 | ⟨g1, o1, rfl, hg1, hcell1⟩
        · exact absurd (congrArg List.length h0) (by rw [← HL.out]; simp; omega)
        rcases H2.out.below HBW.out with h0 | ⟨g2, o2, rfl, hg2, hcell2⟩
        · exact absurd (congrArg List.length h0) (by rw [← HM.out]; simp; omega)
        have hc1 := hcell1 k hkL
        have hc2 := hcell2 k hkM
        have hgx : L[k]! = L[k] := getElem!_pos L k hkL
        have hgy : M[k]! = M[k] := getElem!_pos M k hkM
        have HNX : Hid (L[k] = M[k] → ∀ nq, TextsR L M w (.int .i64 ((k : Int) + 1)) (wr.drewN nq)) := Lib.hid (fun h nq => ⟨k + 1, by simp, by rw [← HL.out]; omega, fun j h2 => by
          by_cases e : j = k
          · subst e; rw [hgx, hgy]; exact h
          · exact HF.out j (by omega), below_drewN HBW.out nq⟩)
        have HST : Hid (L[k] ≠ M[k] → decide (L = M) = false) := Lib.hid (fun h => decide_eq_false (fun hs => h (by subst hs; rfl)))
        have hbl := bstr_list
        clear hcell1 hcell2 hgx hgy HF H1 H2
        unfold encT at hc1 hc2
        generalize L[k] = p at *
        generalize M[k] = q at *
        clear hkL hkM
        by_cases hpq : p = q
        · have hpb : (p == q) = true := by simpa using hpq
          have HNX2 := Lib.hid (HNX.out hpq)
          clear hpq HNX HST
          go_upto_region 6 with fail
          go_quiet (fail)
          go_wp2
          go_roundw
          case rel => exact HNX2.out _
          case measure => simp [RowKit.intOf]; omega
        · have hpb : (p == q) = false := by simpa using hpq
          have HF2 := Lib.hid (HST.out hpq)
          clear hpq HNX HST
          go_upto_region 6 with fail
          go_quiet (fail)
          go_wp2
          go_ret
          exact ⟨by rw [HF2.out]; rfl, below_drewN HBW.out _⟩
      · obtain rfl : k = l := by omega
        have HT : Hid (decide (L = M) = true) := Lib.hid (decide_eq_true (HEX.out (by trivial) HF.out))
        have hlt' : ¬ (k : Int) < (k : Int) := by omega
        clear HF
        go_wp2
        go_ret
        exact ⟨by rw [HT.out]; rfl, HBW.out⟩
  · have HF2 : Hid (decide (L = M) = false) := Lib.hid (decide_eq_false (fun h => hlm (by rw [HL.out, HM.out, h])))
    have hne : ((l : Int) == (m : Int)) = false := by simp; omega
    go_enter Try.func15, Try.ntmps15
    go_wp2
    go_ret
    exact ⟨by rw [HF2.out]; rfl, Below.refl _ _⟩
end Go.Proofs.Ytjiiignbejbiiaa
