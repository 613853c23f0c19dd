/- Contracts of swapRangeCmpFunc and rotateCmpFunc of package slices, at contacts. Conditions: fewer than 2^62 of them; the places lie within them. -/
import Derived.Test.YtbfhfnbhfeedbaaXCsa
import Derived.Test.YtbfhfnbhfeedbaaXPDre
import Derived.Shelf.SlSortCmp.KitK
import Derived.Deep.LoopGhost
namespace Go.Proofs.Ytbfhfnbhfeedbaa
open Go.Shelf Go.RowKit Go.Lib Go.Sort
set_option maxRecDepth 1000000
set_option maxHeartbeats 4000000
section
variable {α : Type} [Inhabited α]
theorem swapr_any (k : Nat) (aE : ∀ w, (isAgg 60).run Try.prog w = .ok true w) (zE : ∀ w, (Go.sizeOf 60).run Try.prog w = .ok k w) (enc : α → List Value) (fv : Value) (blk off cap a b n : Nat) (d0 d : Array α) (w0 w : World)
    (R : RowK enc k w0 blk off d0) (hs : d.size = d0.size) (S : SWK enc k w0 blk off d w) (hab : a + n ≤ b) (hb : b + n ≤ d.size) (hsz : d.size < 4611686018427387904) :
    Calls Try.prog 118 #[.slice (some ⟨blk, off, none⟩) d.size cap, .int .i64 a, .int .i64 b, .int .i64 n, fv] w fun e w' => e = .returned (.tuple #[]) ∧ ∃ d', SwapIs d a b n d' ∧ SWK enc k w0 blk off d' w' := by
  have mixed : Try.prog.follows Departure.mixedOrders = true := by kernel_rfl
  have S0 : Aside (SWK enc k w0 blk off d w) := S
  clear S
  go_enter Try.func118, Try.ntmps118
  go_wp2
  go_loopg [10] n (fun kx s10 wr => ∃ (i : Nat) (dk : Array α), s10 = .int .i64 i ∧ i ≤ n ∧ n - i ≤ kx ∧ SwapIs d a b i dk ∧ Aside (SWK enc k w0 blk off dk wr))
  case atStart => exact ⟨0, d, rfl, by omega, by omega, SwapIs.zero d a b, S0⟩
  case round =>
    clear S0
    obtain ⟨i, dk, rfl, hin, hkx, hsw, S1⟩ := hrel
    have hds : dk.size = d.size := hsw.size
    by_cases hlt : i < n
    · have hltz : (i : Int) < (n : Int) := by omega
      go_wp2_with fail
      have ea44 : ((a : Int) + (i : Int)).toNat = a + i := by omega
      have pa44 : (0 : Int) ≤ (a : Int) + (i : Int) := by omega
      have ba44 : (a : Int) + (i : Int) < (d.size : Int) := by omega
      have ra44 : IntKind.i64.wrap ((a : Int) + (i : Int)) = (a : Int) + (i : Int) := by rw [IntKind.wrap_i64]; omega
      have ec44 : ((b : Int) + (i : Int)).toNat = b + i := by omega
      have pc44 : (0 : Int) ≤ (b : Int) + (i : Int) := by omega
      have bc44 : (b : Int) + (i : Int) < (d.size : Int) := by omega
      have rc44 : IntKind.i64.wrap ((b : Int) + (i : Int)) = (b : Int) + (i : Int) := by rw [IntKind.wrap_i64]; omega
      have S2 : Aside (SWK enc k w0 blk off (swp dk (a + i) (b + i)) ((wr.drew.setCells blk (off + (a + i) * k) (enc dk[b + i]!)).setCells blk (off + (b + i) * k) (enc dk[a + i]!))) := S1.out.swapped R (a + i) (b + i) (by omega) (by omega)
      have l44a := S1.out.ld1 R (by omega) Try.prog (a + i) (by omega)
      have l44b := S1.out.ld1 R (by omega) Try.prog (b + i) (by omega)
      have s44a := S1.out.st1 R (by omega) Try.prog (a + i) (by omega) dk[b + i]!
      have s44b := S1.out.st2 R (by omega) Try.prog (a + i) (b + i) (by omega) (by omega) dk[b + i]! dk[a + i]!
      have n44a : (enc dk[a + i]!).length = k := R.hk _
      have n44b : (enc dk[b + i]!).length = k := R.hk _
      have SW : Aside (SwapIs d a b (i + 1) (swp dk (a + i) (b + i))) := hsw.step hlt hab hb
      generalize enc dk[a + i]! = cI44 at S2 l44a s44b n44a
      generalize enc dk[b + i]! = cJ44 at S2 l44b s44a s44b n44b
      clear S1 hsw
      go_wp2_with fail
      go_big_region_o
      clear l44a l44b s44a s44b
      generalize (wr.drew.setCells blk (off + (a + i) * k) cJ44).setCells blk (off + (b + i) * k) cI44 = w2 at S2 ⊢
      go_wp2
      go_roundg (n - (i + 1))
      case measure => omega
      case rel => exact ⟨i + 1, _, by go_num, by omega, by omega, SW.out, S2⟩
    · obtain rfl : i = n := by omega
      go_wp2
      go_end0
      exact ⟨rfl, dk, hsw, S1.out⟩
theorem rotate_any (k : Nat) (aE : ∀ w, (isAgg 60).run Try.prog w = .ok true w) (zE : ∀ w, (Go.sizeOf 60).run Try.prog w = .ok k w) (enc : α → List Value) (fv : Value) (blk off cap a m b : Nat) (d0 d : Array α) (w0 w : World)
    (R : RowK enc k w0 blk off d0) (hs : d.size = d0.size) (S : SWK enc k w0 blk off d w) (ham : a < m) (hmb : m < b) (hb : b ≤ d.size) (hsz : d.size < 4611686018427387904) :
    Calls Try.prog 114 #[.slice (some ⟨blk, off, none⟩) d.size cap, .int .i64 a, .int .i64 m, .int .i64 b, fv] w fun e w' => e = .returned (.tuple #[]) ∧ ∃ d', RotIs d a m b d' ∧ SWK enc k w0 blk off d' w' := by
  have S0 : Aside (SWK enc k w0 blk off d w) := S
  have HS : Aside (d.size = d0.size) := hs
  clear S hs
  go_enter Try.func114, Try.ntmps114
  go_wp2
  go_loopg [10, 11] (m - a + (b - m)) (fun kx s10 s11 wr => ∃ (i j : Nat) (dk : Array α), s10 = .int .i64 i ∧ s11 = .int .i64 j ∧ 1 ≤ i ∧ 1 ≤ j ∧ i ≤ m ∧ m + j ≤ b ∧ i + j ≤ kx ∧ dk.size = d.size ∧ (∀ d2, RotIs dk (m - i) m (m + j) d2 → RotIs d a m b d2) ∧ Aside (SWK enc k w0 blk off dk wr))
  case atStart => exact ⟨m - a, b - m, d, by first | rfl | (congr 1; omega), by first | rfl | (congr 1; omega), by omega, by omega, by omega, by omega, by omega, rfl, fun d2 h => by rwa [show m - (m - a) = a by omega, show m + (b - m) = b by omega] at h, S0⟩
  case round =>
    clear S0
    obtain ⟨i, j, dk, rfl, rfl, hi, hj, him, hjb, hkx, hds, hrot, S1⟩ := hrel
    have HR : Aside (∀ d2, RotIs dk (m - i) m (m + j) d2 → RotIs d a m b d2) := hrot
    have F1 : Aside ((m : Int) - (i : Int) = ((m - i : Nat) : Int)) := by show _ = _; omega
    have F2 : Aside ((m : Int) + (j : Int) - (i : Int) = ((m + j - i : Nat) : Int)) := by show _ = _; omega
    clear hrot
    rcases Nat.lt_trichotomy i j with hij | hij | hij
    · have hz : ¬ (j : Int) < (i : Int) := by omega
      have hne : ¬ (i : Int) = (j : Int) := by omega
      have HC := Lib.hid (swapr_any k aE zE enc fv blk off cap (m - i) (m + j - i) i d0 dk w0 wr R (hds.trans HS.out) S1.out (by omega) (by omega) (by omega))
      rw [hds, ← F1.out, ← F2.out] at HC
      clear S1
      go_wp2_with (first | (go_at_call 118; (with_reducible refine HC.out.mono ?_); rintro e w2 ⟨rfl, d2, hsw, S2⟩))
      go_roundg (i + (j - i))
      case measure => omega
      case rel => exact ⟨i, j - i, d2, rfl, by congr 1; omega, by omega, by omega, by omega, by omega, by omega, by rw [hsw.size]; exact hds, fun d3 h3 => HR.out d3 (hsw.rot_down hij him h3), S2⟩
    · subst hij
      have HC := Lib.hid (swapr_any k aE zE enc fv blk off cap (m - i) m i d0 dk w0 wr R (hds.trans HS.out) S1.out (by omega) (by omega) (by omega))
      rw [hds, ← F1.out] at HC
      clear S1
      go_wp2_with (first | (go_at_call 118; (with_reducible refine HC.out.mono ?_); rintro e w2 ⟨rfl, d2, hsw, S2⟩))
      go_end0
      exact ⟨rfl, d2, HR.out d2 (hsw.rot (by omega)), S2⟩
    · have hz : (j : Int) < (i : Int) := by omega
      have hne : ¬ (i : Int) = (j : Int) := by omega
      have HC := Lib.hid (swapr_any k aE zE enc fv blk off cap (m - i) m j d0 dk w0 wr R (hds.trans HS.out) S1.out (by omega) (by omega) (by omega))
      rw [hds, ← F1.out] at HC
      clear S1
      go_wp2_with (first | (go_at_call 118; (with_reducible refine HC.out.mono ?_); rintro e w2 ⟨rfl, d2, hsw, S2⟩))
      go_roundg (i - j + j)
      case measure => omega
      case rel => exact ⟨i - j, j, d2, by congr 1; omega, rfl, by omega, by omega, by omega, by omega, by omega, by rw [hsw.size]; exact hds, fun d3 h3 => HR.out d3 (hsw.rot_up hij him (by rwa [show m - (i - j) = m - i + j by omega] at h3)), S2⟩
end
end Go.Proofs.Ytbfhfnbhfeedbaa
