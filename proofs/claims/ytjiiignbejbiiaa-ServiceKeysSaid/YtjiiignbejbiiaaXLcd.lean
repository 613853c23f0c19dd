/- Contract of between, and of Part. Conditions: at most 100,000 bytes. -/
import Derived.Test.YtjiiignbejbiiaaXLcb
namespace Go.Proofs.Ytjiiignbejbiiaa
open Go.Shelf Go.RowKit Go.Lib Go.Great
set_option maxRecDepth 100000
set_option maxHeartbeats 1000000
theorem btw_any (s : List UInt8) (w : World) : Calls Try.prog 40 #[.string (bstr s)] w fun e w' => e = .returned (.func (.func 52) #[] #[.pointer (some ⟨w.heap.size, 0, none⟩)]) ∧ w' = w.alloc (.cells #[.string (bstr s)] 9) := by
  go_enter Try.func40, Try.ntmps40
  go_wp2
  go_ret
  exact ⟨rfl, rfl⟩
theorem bstr_empty (s : List UInt8) : (bstr s).toList.isEmpty = decide (s.length = 0) := by
  rw [← decide_eq_emptyBytes]
  by_cases h : s.length = 0
  · obtain rfl := List.length_eq_zero_iff.1 h
    rfl
  · rw [decide_eq_false h, decide_eq_false]
    intro e
    have := congrArg ByteArray.size e
    rw [bstr_size] at this
    exact h this
theorem part_long (s : List UInt8) (h : s.length = 0 ∨ 63 < s.length) (w : World) : Calls Try.prog 11 #[.string (bstr s)] w fun e w' => e = .returned (.bool false) ∧ Below w.heap.size w w' := by
  have hsz := bstr_size s
  have he := bstr_empty s
  rcases h with h | h
  · rw [decide_eq_true h] at he
    generalize bstr s = B at *
    clear hsz h
    go_enter Try.func11, Try.ntmps11
    go_wp2
    go_ret
    exact ⟨rfl, Below.refl _ _⟩
  · rw [decide_eq_false (by omega)] at he
    have hgt : (63 : Int) < ((bstr s).size : Int) := by omega
    generalize bstr s = B at *
    clear hsz h
    go_enter Try.func11, Try.ntmps11
    go_wp2
    go_ret
    exact ⟨rfl, Below.refl _ _⟩
/-- The bytes ahead of a place fit. -/
def fitsTo (s : List UInt8) (i : Nat) : Prop := ∀ j, j < i → fitsB s[j]! (decide (j = 0) || decide (j = s.length - 1)) = true
def PartR (s : List UInt8) (B : Nat) (w : World) (i : Value) (wr : World) : Prop := ∃ k : Nat, i = .int .i64 (k : Int) ∧ k ≤ s.length ∧ fitsTo s k ∧ Below B w wr
theorem bstr_get (s : List UInt8) (k : Nat) (hk : k < (bstr s).size) : (bstr s)[k] = s[k]! := by
  have : k < s.length := by rw [← bstr_size s]; exact hk
  simp [bstr, ByteArray.getElem_eq_getElem_data, this]
theorem part_short (s : List UInt8) (h1 : 1 ≤ s.length) (h2 : s.length ≤ 63) (w : World) : Calls Try.prog 11 #[.string (bstr s)] w fun e w' => (∃ b, e = .returned (.bool b) ∧ (b = true ↔ fitsTo s s.length)) ∧ Below w.heap.size w w' := by
  have hsz := bstr_size s
  have he := bstr_empty s
  rw [decide_eq_false (by omega)] at he
  have HB := Lib.hid (bstr_get s)
  have R0 : Hid (PartR s w.heap.size w (.int .i64 0) w) := Lib.hid ⟨0, rfl, by omega, fun j hj => absurd hj (by omega), Below.refl _ _⟩
  obtain ⟨n, hn⟩ : ∃ n, n = s.length := ⟨_, rfl⟩
  rw [← hn] at hsz h1 h2 ⊢
  have HN := Lib.hid hn
  clear hn
  generalize bstr s = B at *
  have hgt : ¬ (63 : Int) < (n : Int) := by omega
  go_enter Try.func11, Try.ntmps11
  go_upto_region 4 with fail
  go_loopw [13] (PartR s w.heap.size w) (fun i _ => n - (RowKit.intOf i).toNat)
  case atStart => exact R0.out
  case round =>
    obtain ⟨k, rfl, hk, hF, hb⟩ := hrel
    rw [← HN.out] at hk
    clear R0
    have HF := Lib.hid hF
    have HBW := Lib.hid hb
    clear hF hb
    by_cases hlt : k < n
    · have hlt' : (k : Int) < (n : Int) := by omega
      have hget := HB.out k (by omega)
      have hbyte := B[k].toNat_lt
      obtain ⟨q, hq⟩ : ∃ q, q = (decide (k = 0) || decide (k = n - 1)) := ⟨_, rfl⟩
      have HFI := Lib.hid (fun W => fits_any s[k]! q W)
      have HNEXT : Hid (fitsB s[k]! q = true → PartR s w.heap.size w (.int .i64 ((k : Int) + 1)) wr) := Lib.hid (fun h => ⟨k + 1, by simp, by rw [← HN.out]; omega, fun j hj => by
        by_cases e : j = k
        · subst e
          rw [← HN.out, ← hq]
          exact h
        · exact HF.out j (by omega), HBW.out⟩)
      have HSTOP : Hid (fitsB s[k]! q = false → ¬ fitsTo s n) := Lib.hid (fun h hf => by
        have := hf k hlt
        rw [← HN.out, ← hq, h] at this
        cases this)
      clear HB HF hbyte
      generalize s[k]! = ch at *
      generalize fitsB ch q = r at *
      by_cases k0 : k = 0
      · subst k0
        obtain rfl : q = true := by simpa using hq
        clear hq
        cases r
        · go_wp2_with (go_at_call 38; (with_reducible refine (HFI.out _).mono ?_); rintro e w1 ⟨rfl, rfl⟩)
          go_ret
          exact ⟨⟨false, rfl, fun h => (by cases h), fun h => absurd h (HSTOP.out (by trivial))⟩, HBW.out⟩
        · go_wp2_with (go_at_call 38; (with_reducible refine (HFI.out _).mono ?_); rintro e w1 ⟨rfl, rfl⟩)
          go_roundw
          case rel => exact HNEXT.out (by trivial)
          case measure => simp [RowKit.intOf]; omega
      · have k0' : ((k : Int) == 0) = false := by simp; omega
        by_cases kn : k = n - 1
        · obtain rfl : q = true := by simpa [kn] using hq
          clear hq
          have kn' : ((k : Int) == (n : Int) - 1) = true := by simp; omega
          clear kn
          cases r
          · go_wp2_with (go_at_call 38; (with_reducible refine (HFI.out _).mono ?_); rintro e w1 ⟨rfl, rfl⟩)
            go_ret
            exact ⟨⟨false, rfl, fun h => (by cases h), fun h => absurd h (HSTOP.out (by trivial))⟩, HBW.out⟩
          · go_wp2_with (go_at_call 38; (with_reducible refine (HFI.out _).mono ?_); rintro e w1 ⟨rfl, rfl⟩)
            go_roundw
            case rel => exact HNEXT.out (by trivial)
            case measure => simp [RowKit.intOf]; omega
        · have kn' : ((k : Int) == (n : Int) - 1) = false := by simp; omega
          obtain rfl : q = false := by simpa [k0, kn] using hq
          clear hq kn
          cases r
          · go_wp2_with (go_at_call 38; go_loud ((with_reducible refine (HFI.out _).mono ?_); rintro e w1 ⟨rfl, rfl⟩))
            go_ret
            exact ⟨⟨false, rfl, fun h => (by cases h), fun h => absurd h (HSTOP.out (by trivial))⟩, HBW.out⟩
          · go_wp2_with (go_at_call 38; (with_reducible refine (HFI.out _).mono ?_); rintro e w1 ⟨rfl, rfl⟩)
            go_roundw
            case rel => exact HNEXT.out (by trivial)
            case measure => simp [RowKit.intOf]; omega
    · obtain rfl : k = n := by omega
      have HT : Hid (fitsTo s k) := HF
      clear HF HB
      go_wp2
      go_ret
      exact ⟨⟨true, rfl, fun _ => HT.out, fun _ => rfl⟩, HBW.out⟩
end Go.Proofs.Ytjiiignbejbiiaa
