/- Contracts of the source of the reference (layer 7): Byte, Word, over what is left of the bytes. Conditions: the bytes are at most 900,000. -/
import Derived.Test.YtbfhfnbhfeedbaaPDrb
import Derived.LoopTactic
import Derived.Laws.BitsAllLaws
import Derived.WalkKit
import Derived.Lib.Hide
namespace Go.Proofs.Ytbfhfnbhfeedbaa
set_option maxRecDepth 100000
open Go.RowKit

/-- The reference's source as it stands: r is left of its bytes. -/
def RS (w : World) (h : Nat) (A : Option Addr) (c : Nat) (xs r : List UInt8) : Prop := ∃ k, RSrc w h A c xs k ∧ r = xs.drop k
section
variable {w w' : World} {h : Nat} {A : Option Addr} {c : Nat} {xs r : List UInt8}
theorem RS.drewN (s : RS w h A c xs r) (n : Nat) : RS (w.drewN n) h A c xs r := s
theorem RS.below {B : Nat} (s : RS w h A c xs r) (hb : Below B w w') (hB : w.heap.size ≤ B) : RS w' h A c xs r := by
  obtain ⟨k, a, b⟩ := s
  exact ⟨k, a.below hb hB, b⟩
theorem sleft_any (s : RS w h A c xs r) : Calls Try.prog 24 #[.pointer (some ⟨h, 0, none⟩)] w fun e w' => e = .returned (.int .i64 (r.length : Int)) ∧ ∃ n, w' = w.drewN n := by
  obtain ⟨k, a, rfl⟩ := s
  rw [List.length_drop]
  exact rleft_any a
theorem sbyte_any (s : RS w h A c xs r) : Calls Try.prog 13 #[.pointer (some ⟨h, 0, none⟩)] w fun e w' => e = .returned (.int .u8 ((r.headD 0).toNat : Int)) ∧ RS w' h A c xs r.tail ∧ w.grownBy w' (some h) := by
  obtain ⟨k, a, rfl⟩ := s
  by_cases hk : k = xs.length
  · subst hk
    refine (rbyte_end a).mono ?_
    rintro e w' ⟨rfl, b, g⟩
    rw [Nat.min_eq_right (by omega)] at b
    exact ⟨rfl, ⟨_, b, by simp⟩, g⟩
  · have hk' : k < xs.length := by have := a.2.2.1; omega
    refine (rbyte_more a hk').mono ?_
    rintro e w' ⟨rfl, b, g⟩
    rw [Nat.min_eq_left (by omega)] at b
    exact ⟨rfl, ⟨_, b, by rw [List.tail_drop]⟩, g⟩

/-- j bytes as a number, and what is left. -/
def eat : Nat → List UInt8 → Nat × List UInt8
  | 0, r => (0, r)
  | j + 1, r => ((eat j r).1 * 256 + ((eat j r).2.headD 0).toNat, (eat j r).2.tail)
theorem eat_lt (j : Nat) (r : List UInt8) : (eat j r).1 < 256 ^ j := by
  induction j with
  | zero => simp [eat]
  | succ j ih =>
    have := ((eat j r).2.headD 0).toNat_lt
    rw [eat, Nat.pow_succ]
    simp only
    omega

def WdRel (w : World) (h : Nat) (A : Option Addr) (c : Nat) (xs r : List UInt8) (v i : Value) (w' : World) : Prop :=
  ∃ j : Nat, j ≤ 4 ∧ i = .int .i64 (j : Int) ∧ v = .int .u32 ((eat j r).1 : Int) ∧ RS w' h A c xs (eat j r).2 ∧ w.grownBy w' (some h)
theorem sword_any (s : RS w h A c xs r) : Calls Try.prog 17 #[.pointer (some ⟨h, 0, none⟩)] w fun e w' => e = .returned (.int .u32 ((eat 4 r).1 : Int)) ∧ RS w' h A c xs (eat 4 r).2 ∧ w.grownBy w' (some h) := by
  have R0 : Hid (WdRel w h A c xs r (.int .u32 0) (.int .i64 0) w) := Lib.hid ⟨0, by omega, rfl, rfl, s, World.grownBy.refl _ _⟩
  clear s
  go_enter Try.func17, Try.ntmps17
  go_upto_region 3 with fail
  go_loopw [3, 4] (WdRel w h A c xs r) (fun _ i _ => 4 - (intOf i).toNat)
  case atStart => exact R0.out
  case round =>
    obtain ⟨j, hj, rfl, rfl, hs, hg⟩ := hrel
    clear R0
    by_cases hlt : j < 4
    · have hlt' : (j : Int) < 4 := by omega
      have hb := ((eat j r).2.headD 0).toNat_lt
      have hx : (eat j r).1 < 16777216 := by
        have := eat_lt j r
        have h2 : 256 ^ j ≤ 256 ^ 3 := Nat.pow_le_pow_right (by omega) (by omega)
        omega
      have HB := Lib.hid (sbyte_any hs)
      have HREL : Hid (∀ w', RS w' h A c xs (eat j r).2.tail → wr.grownBy w' (some h) → WdRel w h A c xs r (.int .u32 (((eat j r).1 : Int) * 256 + (((eat j r).2.headD 0).toNat : Int))) (.int .i64 ((j : Int) + 1)) w') := Lib.hid (fun w' a b => ⟨j + 1, by omega, by go_num, by rw [eat]; go_num, by rw [eat]; exact a, grownBy_trans hg b⟩)
      clear hs hg
      generalize (eat j r).1 = x at *
      generalize ((eat j r).2.headD 0).toNat = b at *
      generalize (eat j r).2.tail = r2 at *
      have hx1 : (x : Int) * 256 < 4294967296 := by omega
      have hx2 : (x : Int) * 256 + (b : Int) < 4294967296 := by omega
      go_upto_region 4 with (go_at_call 13; (with_reducible refine HB.out.mono ?_); rintro e w2 ⟨rfl, hs2, hg2⟩)
      have HR2 := Lib.hid (HREL.out _ hs2 hg2)
      clear HREL hs2 hg2 HB
      go_wp2
      go_roundw
      case rel => exact HR2.out
      case measure => simp [intOf]; omega
    · obtain rfl : j = 4 := by omega
      have HF := Lib.hid (And.intro hs hg)
      clear hs hg
      go_wp2
      go_ret
      exact ⟨rfl, HF.out⟩
end
end Go.Proofs.Ytbfhfnbhfeedbaa
