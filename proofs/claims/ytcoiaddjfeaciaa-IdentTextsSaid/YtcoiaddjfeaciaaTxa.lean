/- Contracts of what reads a digit, in package ident and in its reference. No condition. -/
import Derived.Test.YtcoiaddjfeaciaaTexc
import Derived.Lib.Bytealg
namespace Go.Proofs.Ytcoiaddjfeaciaa
set_option maxRecDepth 100000
set_option maxHeartbeats 400000
open Go.RowKit Go.Great

/-- A digit's value; -1: it is none. -/
def valI (c : UInt8) : Int := if 48 ≤ c.toNat ∧ c.toNat ≤ 57 then (c.toNat : Int) - 48 else if 97 ≤ c.toNat ∧ c.toNat ≤ 102 then (c.toNat : Int) - 87 else -1

theorem digit_any (n : Nat) (hn : n < 16) (w : World) : Calls Try.prog 67 #[.int .i64 (n : Int)] w fun e w' => e = .returned (.int .u8 ((digL n).toNat : Int)) ∧ w = w' := by
  have hd : ((digL n).toNat : Int) = if n < 10 then 48 + (n : Int) else 87 + (n : Int) := by
    have : ∀ n : Fin 16, ((digL n.val).toNat : Int) = if n.val < 10 then 48 + (n.val : Int) else 87 + (n.val : Int) := by decide
    exact this ⟨n, hn⟩
  rw [hd]
  clear hd
  by_cases h : n < 10
  · have h' : (n : Int) < 10 := by omega
    rw [if_pos h]
    go_enter Try.func67, Try.ntmps67
    go_wp2
    go_ret
    refine ⟨congrArg (fun x => Ending.returned (.int .u8 x)) ?_, rfl⟩
    omega
  · have h' : ¬ (n : Int) < 10 := by omega
    rw [if_neg h]
    go_enter Try.func67, Try.ntmps67
    go_wp2
    go_ret
    refine ⟨congrArg (fun x => Ending.returned (.int .u8 x)) ?_, rfl⟩
    omega
theorem idx_fin : ∀ c : Fin 256, Lib.indexByte [48, 49, 50, 51, 52, 53, 54, 55, 56, 57, 97, 98, 99, 100, 101, 102] (UInt8.ofNat c.val) = valI (UInt8.ofNat c.val) := by decide +kernel
theorem call94 (c : UInt8) (W : World) : (callFunc 94 #[.string ⟨#[48, 49, 50, 51, 52, 53, 54, 55, 56, 57, 97, 98, 99, 100, 101, 102]⟩, .int .u8 (c.toNat : Int)]).run Try.prog W = .ok (.value (.int .i64 (valI c))) W := by
  have he : Extern.find Try.f94 = some Extern.BytealgIndexByte.indexByte := by kernel_rfl
  rw [run_callFunc_extern Try.func94 (by kernel_rfl) (by kernel_rfl) (by kernel_rfl) he, Lib.run_indexByteString]
  have h := idx_fin ⟨c.toNat, c.toNat_lt⟩
  simp only [UInt8.ofNat_toNat] at h
  have e : ((c.toNat : Int)).toNat.toUInt8 = c := by simp
  simp only [Result.andThen, e, h]
theorem idx85 (c : UInt8) (w : World) : Calls Try.prog 85 #[.string ⟨#[48, 49, 50, 51, 52, 53, 54, 55, 56, 57, 97, 98, 99, 100, 101, 102]⟩, .int .u8 (c.toNat : Int)] w fun e w' => e = .returned (.int .i64 (valI c)) ∧ w = w' := by
  have h := fun W => call94 c W
  go_enter Try.func85, Try.ntmps85
  go_wp2
  go_ret
  exact ⟨rfl, rfl⟩
theorem idx65 (c : UInt8) (w : World) : Calls Try.prog 65 #[.string ⟨#[48, 49, 50, 51, 52, 53, 54, 55, 56, 57, 97, 98, 99, 100, 101, 102]⟩, .int .u8 (c.toNat : Int)] w fun e w' => e = .returned (.int .i64 (valI c)) ∧ w = w' := by
  have H := Lib.hid (fun W => idx85 c W)
  go_enter Try.func65, Try.ntmps65
  go_wp2_with (go_at_call 85; refine (H.out _).mono ?_; rintro e w1 ⟨rfl, rfl⟩)
  go_ret
  exact ⟨rfl, rfl⟩

/-- The reference tries the digits one by one. -/
theorem val_at (c : UInt8) (n : Nat) (hn : n < 16) (h : (digL n).toNat = c.toNat) : valI c = n := by
  have : ∀ n : Fin 16, valI (digL n.val) = n.val := by decide
  have e : digL n = c := UInt8.toNat.inj h
  rw [← e]
  exact this ⟨n, hn⟩
theorem val_none (c : UInt8) (h : ∀ n, n < 16 → (digL n).toNat ≠ c.toNat) : valI c = -1 := by
  have : ∀ c : Fin 256, (∀ n : Fin 16, (digL n.val).toNat ≠ c.val) → valI (UInt8.ofNat c.val) = -1 := by decide +kernel
  have := this ⟨c.toNat, c.toNat_lt⟩ (fun n => h n.val n.isLt)
  simpa using this
def VRel (w : World) (c : UInt8) (i : Value) (wr : World) : Prop := ∃ n : Nat, n ≤ 16 ∧ i = .int .i64 (n : Int) ∧ (∀ k, k < n → (digL k).toNat ≠ c.toNat) ∧ w = wr
theorem value_any (c : UInt8) (w : World) : Calls Try.prog 66 #[.int .u8 (c.toNat : Int)] w fun e w' => e = .returned (.int .i64 (valI c)) ∧ w = w' := by
  go_enter Try.func66, Try.ntmps66
  go_wp2
  go_loopw [3] (VRel w c) (fun i _ => 16 - (intOf i).toNat)
  case atStart => exact ⟨0, by omega, rfl, fun k hk => by omega, rfl⟩
  case round =>
    obtain ⟨n, hn, rfl, hk, rfl⟩ := hrel
    by_cases hlt : n < 16
    · have hlt' : (n : Int) < 16 := by omega
      have HD := Lib.hid (fun W => digit_any n hlt W)
      by_cases he : (digL n).toNat = c.toNat
      · have hv := val_at c n hlt he
        have HV := Lib.hid hv
        rw [he] at HD
        clear hv hk he
        go_wp2_with (go_at_call 67; refine (HD.out _).mono ?_; rintro e w1 ⟨rfl, rfl⟩)
        go_ret
        exact ⟨by rw [HV.out]; rfl, rfl⟩
      · have hne : ¬ ((digL n).toNat : Int) = (c.toNat : Int) := by omega
        have HR : Hid (VRel w c (.int .i64 ((n : Int) + 1)) w) := Lib.hid ⟨n + 1, by omega, by go_num, fun k h => by
          by_cases hkn : k = n
          · rw [hkn]; exact he
          · exact hk k (by omega), rfl⟩
        generalize (digL n).toNat = d at HD hne he
        generalize c.toNat = cn at hne he ⊢
        clear hk
        go_wp2_with (go_at_call 67; refine (HD.out _).mono ?_; rintro e w1 ⟨rfl, rfl⟩)
        go_roundw
        case rel => exact HR.out
        case measure => simp [intOf]; omega
    · obtain rfl : n = 16 := by omega
      have HV := Lib.hid (val_none c (fun k h => hk k h))
      clear hk hlt hn
      go_wp2
      go_ret
      exact ⟨by rw [HV.out]; rfl, rfl⟩
end Go.Proofs.Ytcoiaddjfeaciaa
