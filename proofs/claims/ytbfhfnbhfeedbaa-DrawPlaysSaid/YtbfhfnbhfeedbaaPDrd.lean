/- Contract of the source of the reference (layer 7): Num. Conditions: the bytes are at most 900,000; the number that comes in is an int. -/
import Derived.Test.YtbfhfnbhfeedbaaPDrm
namespace Go.Proofs.Ytbfhfnbhfeedbaa
set_option maxRecDepth 100000
open Go.RowKit
section
variable {w w' : World} {h : Nat} {A : Option Addr} {c : Nat} {xs r : List UInt8}
def NmRel (w : World) (h : Nat) (A : Option Addr) (c : Nat) (xs r : List UInt8) (m0 : Nat) (v u : Value) (w' : World) : Prop :=
  ∃ (m x i : Nat) (r' : List UInt8), u = .int .u64 (m : Int) ∧ v = .int .u64 (x : Int) ∧ numX m0 0 r = numX m x r' ∧ i ≤ 8 ∧ m < 256 ^ (8 - i) ∧ x < 256 ^ i ∧ RS w' h A c xs r' ∧ w.grownBy w' (some h)
theorem snum_any (s : RS w h A c xs r) (n : Int) (hn : n ≤ 9223372036854775807) : Calls Try.prog 15 #[.pointer (some ⟨h, 0, none⟩), .int .i64 n] w fun e w' => e = .returned (.int .i64 ((numL n r).1 : Int)) ∧ RS w' h A c xs (numL n r).2 ∧ w.grownBy w' (some h) := by
  by_cases h2 : n < 2
  · rw [numL_small h2]
    have HF := Lib.hid (And.intro s (World.grownBy.refl w (some h)))
    clear s
    go_enter Try.func15, Try.ntmps15
    go_wp2
    go_ret
    exact ⟨rfl, HF.out⟩
  · obtain ⟨N, rfl⟩ : ∃ N : Nat, n = (N : Int) + 1 := ⟨(n - 1).toNat, by omega⟩
    have hN : 0 < N := by omega
    have hN2 : N < 256 ^ 8 := by have : (256 : Nat) ^ 8 = 18446744073709551616 := by decide
                                 omega
    have R0 : Hid (NmRel w h A c xs r N (.int .u64 0) (.int .u64 (N : Int)) w) := Lib.hid ⟨N, 0, 0, r, rfl, rfl, rfl, by omega, hN2, by decide, s, World.grownBy.refl _ _⟩
    have e1 : numL ((N : Int) + 1) r = ((numX N 0 r).1 % (N + 1), (numX N 0 r).2) := by
      unfold numL
      rw [if_neg h2, show ((N : Int) + 1).toNat = N + 1 from by omega, Nat.add_sub_cancel]
    rw [e1]
    have hmod : (numX N 0 r).1 % (N + 1) < N + 1 := Nat.mod_lt _ (by omega)
    have HM : Hid ((numX N 0 r).1 % (N + 1) < N + 1) := Lib.hid hmod
    clear s e1 hmod hN2
    go_enter Try.func15, Try.ntmps15
    go_upto_region 5 with fail
    go_loopw [5, 6] (NmRel w h A c xs r N) (fun _ u _ => (intOf u).toNat)
    case atStart => exact R0.out
    case round =>
      obtain ⟨m, x, i, r', rfl, rfl, he, hi, hm, hx, hs, hg⟩ := hrel
      clear R0
      by_cases h0 : 0 < m
      · have hi8 : i < 8 := by
          rcases Nat.lt_or_ge i 8 with h | h
          · exact h
          · rw [show 8 - i = 0 from by omega] at hm
            simp at hm; omega
        have hb := (r'.headD 0).toNat_lt
        have hx3 : x * 256 + 255 < 18446744073709551616 := by
          have h7 : x < 256 ^ 7 := Nat.lt_of_lt_of_le hx (Nat.pow_le_pow_right (by omega) (by omega))
          have : (256 : Nat) ^ 7 = 72057594037927936 := by decide
          omega
        have hmm : m / 256 < 256 ^ (8 - (i + 1)) := by
          rw [show 8 - i = (8 - (i + 1)) + 1 from by omega, Nat.pow_succ] at hm
          exact Nat.div_lt_of_lt_mul (by rw [Nat.mul_comm]; exact hm)
        have hxx : x * 256 + (r'.headD 0).toNat < 256 ^ (i + 1) := by rw [Nat.pow_succ]; omega
        have hm9 : m < 18446744073709551616 := Nat.lt_of_lt_of_le hm (Nat.le_trans (Nat.pow_le_pow_right (by omega) (show 8 - i ≤ 8 by omega)) (by decide))
        have hm8 : (m : Int) / 256 < 18446744073709551616 := by omega
        have hm7 : 0 ≤ (m : Int) / 256 := by omega
        have HB := Lib.hid (sbyte_any hs)
        have HREL : Hid (∀ w', RS w' h A c xs r'.tail → wr.grownBy w' (some h) → NmRel w h A c xs r N (.int .u64 ((x : Int) * 256 + ((r'.headD 0).toNat : Int))) (.int .u64 ((m / 256 : Nat) : Int)) w') := Lib.hid (fun w' a b => ⟨m / 256, x * 256 + (r'.headD 0).toNat, i + 1, r'.tail, rfl, by go_num, he.trans (numX_step h0 x r'), by omega, hmm, hxx, a, grownBy_trans hg b⟩)
        have hdiv : ((m / 256 : Nat) : Int) = (m : Int) / 256 := by omega
        rw [hdiv] at HREL
        clear hs hg he hm hx hmm hxx hdiv
        generalize (r'.headD 0).toNat = b at *
        have hx1 : (x : Int) * 256 < 18446744073709551616 := by omega
        have hx2 : (x : Int) * 256 + (b : Int) < 18446744073709551616 := by omega
        have h0' : (0 : Int) < (m : Int) := by omega
        go_upto_region 6 with (go_at_call 13; (with_reducible refine HB.out.mono ?_); rintro e w2 ⟨rfl, hs2, hg2⟩)
        have HR2 := Lib.hid (HREL.out _ hs2 hg2)
        clear HREL hs2 hg2 HB
        go_wp2
        go_roundw
        case rel => exact HR2.out
        case measure => simp [intOf]; omega
      · obtain rfl : m = 0 := by omega
        rw [numX_zero] at he
        have hx3 : x < 18446744073709551616 := by
          have h7 : x < 256 ^ 8 := Nat.lt_of_lt_of_le hx (Nat.pow_le_pow_right (by omega) hi)
          have : (256 : Nat) ^ 8 = 18446744073709551616 := by decide
          omega
        have HF := Lib.hid (And.intro hs hg)
        rw [he] at HM
        have HE := Lib.hid he
        have hmi : ((x % (N + 1) : Nat) : Int) = (x : Int) % ((N : Int) + 1) := by simp
        have hml := HM.out
        simp only at hml
        have hmo : (x : Int) % ((N : Int) + 1) < (N : Int) + 1 := by omega
        have hmp : 0 ≤ (x : Int) % ((N : Int) + 1) := by omega
        clear hs hg he hx hm hml hmi
        go_wp2
        go_ret
        rw [HE.out]
        exact ⟨rfl, HF.out⟩
end
end Go.Proofs.Ytbfhfnbhfeedbaa
